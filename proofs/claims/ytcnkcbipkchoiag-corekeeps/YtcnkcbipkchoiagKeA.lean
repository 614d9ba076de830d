import Derived.Test.YtcnkcbipkchoiagCoT
import Derived.Test.YtcnkcbipkchoiagCoL
namespace Go.Proofs.Ytcnkcbipkchoiag
open Go.ChangeShapes Go.WideShapes Go.ChangeAt Go.RowKit Go.Maps

/-! THE LAW CoreKeeps: what stands in memory. -/

/-- Seventeen numbers. -/
def ArN (w : World) (g : Nat) (f : Nat → Int) : Prop := At w g 82 ((List.range 17).map fun i => .int .i64 (f i))
theorem ArN.cell {w : World} {g : Nat} {f : Nat → Int} (h : ArN w g f) {j : Nat} (hj : j < 17) : w.cell? ⟨g, j, none⟩ = some (.int .i64 (f j)) := by
  rw [At.cell h, List.getElem?_map, List.getElem?_range hj]
  rfl
theorem ArN.set {w : World} {g : Nat} {f f' : Nat → Int} (h : ArN w g f) {j : Nat} {x : Int} (e : ∀ i, i < 17 → f' i = if i = j then x else f i) : ArN (w.setCell ⟨g, j, none⟩ (.int .i64 x)) g f' := by
  have h1 := At.setCell (o := j) h (.int .i64 x)
  unfold ArN
  have : ((List.range 17).map fun i => Value.int .i64 (f' i)) = ((List.range 17).map fun i => Value.int .i64 (f i)).set j (.int .i64 x) := by
    refine List.ext_getElem (by simp) fun i h1 h2 => ?_
    have hi : i < 17 := by simpa using h1
    rw [List.getElem_set]
    simp only [List.getElem_map, List.getElem_range]
    by_cases ej : j = i
    · rw [if_pos ej, e i hi, if_pos ej.symm]
    · rw [if_neg ej, e i hi, if_neg fun e => ej e.symm]
  rw [this]
  exact h1
def whV (ls : List LnM) : Int → Option Value := fun g => if 1 ≤ g ∧ g ≤ (ls.length : Int) then some (.int .i64 (ls.getD (g.toNat - 1) .zero).who) else none
theorem whV_app (ls : List LnM) (x : LnM) : whV (ls ++ [x]) = updI (whV ls) ((ls.length : Int) + 1) (some (.int .i64 x.who)) := by
  funext g
  unfold whV updI
  rw [show ((ls ++ [x]).length : Int) = (ls.length : Int) + 1 by simp]
  by_cases hg : g = (ls.length : Int) + 1
  · rw [if_pos hg, if_pos (by omega), show g.toNat - 1 = ls.length by omega, getD_appL2]
  · rw [if_neg hg]
    show _ = if 1 ≤ g ∧ g ≤ (ls.length : Int) then some (Value.int .i64 (ls.getD (g.toNat - 1) .zero).who) else none
    by_cases hr : 1 ≤ g ∧ g ≤ (ls.length : Int)
    · rw [if_pos (by omega), if_pos hr, getD_appL1 (by omega)]
    · rw [if_neg (by omega), if_neg hr]
theorem whV_congr {ls ls' : List LnM} (hl : ls'.length = ls.length) (h : ∀ i, i < ls.length → (ls'.getD i .zero).who = (ls.getD i .zero).who) : whV ls' = whV ls := by
  funext g
  unfold whV
  rw [hl]
  by_cases hr : 1 ≤ g ∧ g ≤ (ls.length : Int)
  · rw [if_pos hr, if_pos hr, h _ (by omega)]
  · rw [if_neg hr, if_neg hr]
theorem whV_shut (k : Int) (ls : List LnM) : whV (shutL k ls) = whV ls := whV_congr (shutL_len _ _) fun i hi => by
  rw [shutL_at hi]
  split <;> rfl
theorem whV_set {ls : List LnM} {i : Nat} {x : LnM} (hi : i < ls.length) (hw : x.who = (ls.getD i .zero).who) : whV (ls.set i x) = whV ls := whV_congr (List.length_set ..) fun j hj => by
  by_cases e : i = j
  · subst e
    rw [getD_setLS hi, hw]
  · rw [getD_setLN e]
/-- All that stands: the core, quotas, what was charged, whose the grants are. -/
structure KeF (w0 w : World) (c qb hb wm : Nat) (F : List Nat) (m : CoM) (n nw : Nat) (q h : Nat → Int) (V : Int → Option Value) : Prop where
  co : PCo w c F m n
  qa : ArN w qb q
  ha : ArN w hb h
  wp : IMap w wm nw V
  nq : qb ∉ F
  nh : hb ∉ F
  nW : wm ∉ F
  qh : qb ≠ hb
  lo : ∀ x ∈ F, w0.heap.size ≤ x
  lq : w0.heap.size ≤ qb ∧ w0.heap.size ≤ hb ∧ w0.heap.size ≤ wm
  bl : Below w0.heap.size w0 w
def Ke (w0 w : World) (c qb hb wm : Nat) (m : CoM) (n nw : Nat) (q h : Nat → Int) (V : Int → Option Value) : Prop := ∃ F, KeF w0 w c qb hb wm F m n nw q h V
theorem ke_qw {w0 w : World} {c qb hb wm n nw : Nat} {F : List Nat} {m : CoM} {q h : Nat → Int} {V : Int → Option Value} (k : KeF w0 w c qb hb wm F m n nw q h V) : qb ≠ wm ∧ hb ≠ wm := ⟨fun e => k.wp.cells (by rw [← e]; exact k.qa), fun e => k.wp.cells (by rw [← e]; exact k.ha)⟩
theorem keptLow {w0 w w' : World} {S : List Nat} (h : Below w0.heap.size w0 w) (hk : Kept S w w') (hs : ∀ x ∈ S, w0.heap.size ≤ x) : Below w0.heap.size w0 w' := by
  refine ⟨hk.os.trans h.os, hk.tape.trans h.tape, hk.output.trans h.output, Nat.le_trans h.size hk.size, fun j hj => ?_⟩
  rw [hk.block j (Nat.lt_of_lt_of_le hj h.size) (fun e => by have := hs j e; omega), h.block j hj]
/-- A call of the core. -/
theorem KeF.step {w0 w w' : World} {c qb hb wm n n' nw : Nat} {F F' : List Nat} {m m' : CoM} {q h : Nat → Int} {V : Int → Option Value} (k : KeF w0 w c qb hb wm F m n nw q h V) (hk : Kept F w w') (co : PCo w' c F' m' n') (hg : Grown w.heap.size F F') : Ke w0 w' c qb hb wm m' n' nw q h V := by
  refine ⟨F', co, At.kept k.qa hk k.nq, At.kept k.ha hk k.nh, k.wp.kept hk k.nW, hg.out k.nq (At.lt k.qa), hg.out k.nh (At.lt k.ha), hg.out k.nW k.wp.lt, k.qh, hg.low k.lo k.bl.size, k.lq, keptLow k.bl hk k.lo⟩
/-- Something new, or nothing. -/
theorem PCo.kept {w w' : World} {c : Nat} {F : List Nat} {m : CoM} {n : Nat} {T : List Nat} (h : PCo w c F m n) (hk : Kept T w w') (hd : ∀ x ∈ F, x ∉ T) : PCo w' c F m n := by
  obtain ⟨N, rfl, h⟩ := h
  exact ⟨N, rfl, h.kept hk hd⟩
theorem PCo.mono {w : World} {c : Nat} {F : List Nat} {m : CoM} {n n' : Nat} (h : PCo w c F m n) (hn : n ≤ n') : PCo w c F m n' := by
  obtain ⟨N, rfl, h⟩ := h
  exact ⟨N, rfl, h.mono hn⟩
theorem PCo.lt {w : World} {c : Nat} {F : List Nat} {m : CoM} {n : Nat} (h : PCo w c F m n) : ∀ x ∈ F, x < w.heap.size := by
  obtain ⟨N, rfl, h⟩ := h
  exact h.lt
theorem PCo.ok {w : World} {c : Nat} {F : List Nat} {m : CoM} {n : Nat} (h : PCo w c F m n) : m.Ok n := by
  obtain ⟨N, rfl, h⟩ := h
  exact h.ok
theorem Ke.idle {w0 w w' : World} {c qb hb wm n nw : Nat} {m : CoM} {q h : Nat → Int} {V : Int → Option Value} (k : Ke w0 w c qb hb wm m n nw q h V) (hk : Kept [] w w') : Ke w0 w' c qb hb wm m n nw q h V := by
  obtain ⟨F, k⟩ := k
  exact k.step (hk.wider (by simp)) (k.co.kept hk (by simp)) (fun x hx => .inl hx)
theorem Ke.mono {w0 w : World} {c qb hb wm n n' nw : Nat} {m : CoM} {q h : Nat → Int} {V : Int → Option Value} (k : Ke w0 w c qb hb wm m n nw q h V) (hn : n ≤ n') : Ke w0 w c qb hb wm m n' nw q h V := by
  obtain ⟨F, k⟩ := k
  exact k.step (Kept.refl _ _) (k.co.mono hn) (fun x hx => .inl hx)
theorem Ke.ok {w0 w : World} {c qb hb wm n nw : Nat} {m : CoM} {q h : Nat → Int} {V : Int → Option Value} (k : Ke w0 w c qb hb wm m n nw q h V) : m.Ok n := by
  obtain ⟨F, k⟩ := k
  exact k.co.ok
theorem Ke.bl {w0 w : World} {c qb hb wm n nw : Nat} {m : CoM} {q h : Nat → Int} {V : Int → Option Value} (k : Ke w0 w c qb hb wm m n nw q h V) : Below w0.heap.size w0 w := by
  obtain ⟨F, k⟩ := k
  exact k.bl
/-- The calls. -/
theorem ke_step {w0 w w' : World} {c qb hb wm n n' nw : Nat} {F : List Nat} {m : CoM} {r : CoR} {q h : Nat → Int} {V : Int → Option Value} {e : Ending} (k : KeF w0 w c qb hb wm F m n nw q h V) (hs : StepC w c F r n' e w') : e = .returned (.int .i64 r.err) ∧ Ke w0 w' c qb hb wm r.m n' nw q h V := by
  obtain ⟨h1, h2, F', h3, h4⟩ := hs
  exact ⟨h1, k.step h2 h3 h4⟩
theorem ke_join {w0 w : World} {c qb hb wm n nw : Nat} {m : CoM} {q h : Nat → Int} {V : Int → Option Value} (k : Ke w0 w c qb hb wm m n nw q h V) {x : Int} (y : Int) (hx : In64 x) (hn : n ≤ manyN) : Calls Try.prog 31 #[ptrV c, .int .i64 x, .int .i64 y] w fun e w' => e = .returned (.int .i64 (m.join x y).err) ∧ Ke w0 w' c qb hb wm (m.join x y).m (n + 1) nw q h V := by
  obtain ⟨F, k⟩ := k
  exact (cjoin_any y k.co hx hn).mono fun e w' hs => ke_step k hs
theorem ke_attach {w0 w : World} {c qb hb wm n nw : Nat} {m : CoM} {q h : Nat → Int} {V : Int → Option Value} (k : Ke w0 w c qb hb wm m n nw q h V) {x : Int} (y : Int) (hx : In64 x) : Calls Try.prog 32 #[ptrV c, .int .i64 x, .int .i64 y] w fun e w' => e = .returned (.int .i64 (m.attach x y).err) ∧ Ke w0 w' c qb hb wm (m.attach x y).m n nw q h V := by
  obtain ⟨F, k⟩ := k
  exact (cattach_co y k.co hx).mono fun e w' hs => ke_step k hs
theorem ke_leave {w0 w : World} {c qb hb wm n nw : Nat} {m : CoM} {q h : Nat → Int} {V : Int → Option Value} (k : Ke w0 w c qb hb wm m n nw q h V) {x : Int} (hx : In64 x) : Calls Try.prog 35 #[ptrV c, .int .i64 x] w fun e w' => e = .returned (.int .i64 (m.leave x).err) ∧ Ke w0 w' c qb hb wm (m.leave x).m n nw q h V := by
  obtain ⟨F, k⟩ := k
  exact (cleave_any k.co hx).mono fun e w' hs => ke_step k hs
theorem ke_report {w0 w : World} {c qb hb wm n nw : Nat} {m : CoM} {q h : Nat → Int} {V : Int → Option Value} (k : Ke w0 w c qb hb wm m n nw q h V) {g t b : Int} {f : Bool} (hg : In64 g) (ht : In64 t) (hb' : In64 b) (hn : n < manyN) (n' : Nat) (h0 : n ≤ n') (h1 : m.repErr g t b = 0 → n + 1 ≤ n') : Calls Try.prog 34 #[ptrV c, usageV g t b f] w fun e w' => e = .returned (.int .i64 (m.report g t b f).err) ∧ Ke w0 w' c qb hb wm (m.report g t b f).m n' nw q h V := by
  obtain ⟨F, k⟩ := k
  exact (creport_any n' k.co hg ht hb' hn h0 h1).mono fun e w' hs => ke_step k hs
theorem ke_lend {w0 w : World} {c qb hb wm n nw : Nat} {m : CoM} {q h : Nat → Int} {V : Int → Option Value} (k : Ke w0 w c qb hb wm m n nw q h V) {x : Int} (hx : In64 x) (hn : n < manyN) : Calls Try.prog 33 #[ptrV c, .int .i64 x] w fun e w' => e = .returned (.tuple #[.int .i64 (m.lendG x : Nat), .int .i64 (m.lendX x : Nat), .int .i64 (m.lendErr x)]) ∧ Ke w0 w' c qb hb wm (m.lent' x) (n + 1) nw q h V := by
  obtain ⟨F, k⟩ := k
  refine (clend_any k.co hx hn).mono ?_
  rintro e w' ⟨h1, h2, F', h3, h4⟩
  exact ⟨h1, k.step h2 h3 h4⟩
theorem ke_record {w0 w : World} {c qb hb wm n nw : Nat} {m : CoM} {q h : Nat → Int} {V : Int → Option Value} (k : Ke w0 w c qb hb wm m n nw q h V) {x : Int} (hx : In64 x) : Calls Try.prog 26 #[ptrV c, .int .i64 x] w fun e w' => e = .returned (.tuple #[recV m x, .int .i64 (m.recErr x)]) ∧ Ke w0 w' c qb hb wm m n nw q h V ∧ Below w.heap.size w w' := by
  obtain ⟨F, k⟩ := k
  refine (crecord_any k.co hx).mono ?_
  rintro e w' ⟨h1, h2⟩
  exact ⟨h1, Ke.idle ⟨F, k⟩ (Kept.of_below h2), h2⟩
/-- What is written besides. -/
theorem Ke.setQ {w0 w : World} {c qb hb wm n nw : Nat} {m : CoM} {q q' h : Nat → Int} {V : Int → Option Value} (k : Ke w0 w c qb hb wm m n nw q h V) {j : Nat} {x : Int} (e : ∀ i, i < 17 → q' i = if i = j then x else q i) : Ke w0 (w.setCell ⟨qb, j, none⟩ (.int .i64 x)) c qb hb wm m n nw q' h V := by
  obtain ⟨F, k⟩ := k
  have hk : Kept [qb] w (w.setCell ⟨qb, j, none⟩ (.int .i64 x)) := (Kept.refl _ w).setCell (by simp) _
  exact ⟨F, k.co.kept hk (fun y hy => by simp; exact fun e => k.nq (by rw [← e]; exact hy)), k.qa.set e, At.kept k.ha hk (by simpa using fun e => k.qh e.symm), k.wp.kept hk (by simpa using fun e => (ke_qw k).1 e.symm), k.nq, k.nh, k.nW, k.qh, k.lo, k.lq, keptLow k.bl hk (by simpa using k.lq.1)⟩
theorem Ke.setH {w0 w : World} {c qb hb wm n nw : Nat} {m : CoM} {q h h' : Nat → Int} {V : Int → Option Value} (k : Ke w0 w c qb hb wm m n nw q h V) {j : Nat} {x : Int} (e : ∀ i, i < 17 → h' i = if i = j then x else h i) : Ke w0 (w.setCell ⟨hb, j, none⟩ (.int .i64 x)) c qb hb wm m n nw q h' V := by
  obtain ⟨F, k⟩ := k
  have hk : Kept [hb] w (w.setCell ⟨hb, j, none⟩ (.int .i64 x)) := (Kept.refl _ w).setCell (by simp) _
  exact ⟨F, k.co.kept hk (fun y hy => by simp; exact fun e => k.nh (by rw [← e]; exact hy)), At.kept k.qa hk (by simpa using k.qh), k.ha.set e, k.wp.kept hk (by simpa using fun e => (ke_qw k).2 e.symm), k.nq, k.nh, k.nW, k.qh, k.lo, k.lq, keptLow k.bl hk (by simpa using k.lq.2.1)⟩
theorem Ke.putW {w0 w : World} {c qb hb wm n nw : Nat} {m : CoM} {q h : Nat → Int} {V : Int → Option Value} (k : Ke w0 w c qb hb wm m n nw q h V) (hn : nw < maxLen) {g : Int} (hg : In64 g) (x : Value) : ∃ w', (Instr.mapUpdate 84 (.map (some wm)) (.int .i64 g) x).run Try.prog w = .ok () w' ∧ Ke w0 w' c qb hb wm m n (nw + 1) q h (updI V g (some x)) := by
  obtain ⟨F, k⟩ := k
  obtain ⟨w', h1, h2, hk⟩ := k.wp.put hn hg Try.underlying84 x (nw + 1) (by split <;> omega)
  exact ⟨w', h1, F, k.co.kept hk (fun y hy => by simp; exact fun e => k.nW (by rw [← e]; exact hy)), At.kept k.qa hk (by simpa using (ke_qw k).1), At.kept k.ha hk (by simpa using (ke_qw k).2), h2, k.nq, k.nh, k.nW, k.qh, k.lo, k.lq, keptLow k.bl hk (by simpa using k.lq.2.2)⟩
theorem Ke.look {w0 w : World} {c qb hb wm n nw : Nat} {m : CoM} {q h : Nat → Int} {V : Int → Option Value} (k : Ke w0 w c qb hb wm m n nw q h V) {g x : Int} (hg : In64 g) (hx : V g = some (.int .i64 x)) : (Instr.lookup 84 (.map (some wm)) (.int .i64 g) false).run Try.prog w = .ok (.int .i64 x) w := by
  obtain ⟨F, k⟩ := k
  have := k.wp.look hg Try.underlying84 (Try.zeroMI w) (x := .int .i64 x) (by rw [hx]; rfl) rfl false
  simpa using this
/-- What the books say. -/
structure KeS (m : CoM) (q h : Nat → Int) : Prop where
  qq : ∀ k p, m.per k = some p → q k.toNat = (p.quota : Int)
  hh : ∀ k : Int, 0 ≤ k → k ≤ 16 → h k.toNat = (m.chgd k : Int)
theorem KeS.same {m m' : CoM} {q h : Nat → Int} (s : KeS m q h) (h1 : ∀ k p', m'.per k = some p' → ∃ p, m.per k = some p ∧ p'.quota = p.quota) (h2 : ∀ k, m'.chgd k = m.chgd k) : KeS m' q h := ⟨fun k p' hp => by
  obtain ⟨p, e, e'⟩ := h1 k p' hp
  rw [s.qq k p e, e'], fun k k0 k1 => by rw [s.hh k k0 k1, h2]⟩
theorem CoM.leave_per {m : CoM} {x k : Int} {p' : PrM} (h : (m.leave x).m.per k = some p') : ∃ p, m.per k = some p ∧ p'.quota = p.quota := by
  unfold CoM.leave at h
  cases hp : m.per x with
  | none => rw [hp] at h; exact ⟨p', h, rfl⟩
  | some p =>
    rw [hp] at h
    by_cases ht : tNot 0 p = true
    · simp only [ht, if_true] at h
      have h : (if k = x then some (⟨p.quota, 0, 0⟩ : PrM) else m.per k) = some p' := h
      by_cases e : k = x
      · rw [if_pos e] at h
        injection h with h
        exact ⟨p, by rw [e]; exact hp, by rw [← h]⟩
      · rw [if_neg e] at h
        exact ⟨p', h, rfl⟩
    · simp only [ht] at h
      exact ⟨p', h, rfl⟩
theorem CoM.leave_loans (m : CoM) (x : Int) : whV (m.leave x).m.loans = whV m.loans ∧ ∀ k, (m.leave x).m.chgd k = m.chgd k := by
  unfold CoM.leave
  cases hp : m.per x with
  | none => exact ⟨rfl, fun _ => rfl⟩
  | some p =>
    by_cases ht : tNot 0 p = true
    · simp only [ht, if_true]
      exact ⟨whV_shut _ _, fun k => shutL_used k x m.loans⟩
    · simp only [ht]
      exact ⟨rfl, fun _ => rfl⟩
theorem CoM.attach_per {m : CoM} {x y k : Int} {p' : PrM} (h : (m.attach x y).m.per k = some p') : ∃ p, m.per k = some p ∧ p'.quota = p.quota := by
  unfold CoM.attach CoM.move at h
  cases hp : m.per x with
  | none => rw [hp] at h; exact ⟨p', h, rfl⟩
  | some p =>
    rw [hp] at h
    by_cases hc : [y].all okCell = true
    · by_cases ht : tIs 0 p = true
      · simp only [hc, ht, if_true] at h
        have h : (if k = x then some (⟨p.quota, 1, y.toNat⟩ : PrM) else m.per k) = some p' := h
        by_cases e : k = x
        · rw [if_pos e] at h
          injection h with h
          exact ⟨p, by rw [e]; exact hp, by rw [← h]⟩
        · rw [if_neg e] at h
          exact ⟨p', h, rfl⟩
      · simp only [hc, ht, if_true] at h
        exact ⟨p', h, rfl⟩
    · simp only [hc] at h
      exact ⟨p', h, rfl⟩
theorem CoM.attach_loans (m : CoM) (x y : Int) : (m.attach x y).m.loans = m.loans := by
  unfold CoM.attach CoM.move
  cases hp : m.per x with
  | none => rfl
  | some p =>
    by_cases hc : [y].all okCell = true
    · by_cases ht : tIs 0 p = true
      · simp only [hc, ht, if_true]
        rfl
      · simp only [hc, ht, if_true]
        rfl
    · simp only [hc]
      rfl
theorem CoM.lent'_loans (m : CoM) (x : Int) : (∀ k, (m.lent' x).chgd k = m.chgd k) ∧ (m.lent' x).per = m.per := by
  unfold CoM.lent'
  split
  · refine ⟨fun k => ?_, rfl⟩
    show usedL k (m.loans ++ [_]) = usedL k m.loans
    rw [usedL_app]
    simp [usedL, LnM.uc]
  · exact ⟨fun _ => rfl, rfl⟩
end Go.Proofs.Ytcnkcbipkchoiag
