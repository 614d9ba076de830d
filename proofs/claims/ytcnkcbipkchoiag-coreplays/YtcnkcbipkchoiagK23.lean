import Derived.Test.YtcnkcbipkchoiagK22
import Derived.Test.YtcnkcbipkchoiagK18
namespace Go.Proofs.Ytcnkcbipkchoiag
open Go.ChangeShapes Go.WideShapes Go.ChangeAt Go.RowKit Go.Maps
set_option maxRecDepth 100000 in
set_option maxHeartbeats 2000000 in
theorem creport_good {w : World} {c : Nat} {F : List Nat} {m : CoM} {n : Nat} {g t b : Int} {f : Bool} (h : PCo w c F m n) (ht : In64 t) (hb : In64 b) (hn : n < manyN) (he : m.repErr g t b = 0) : Calls Try.prog 34 #[ptrV c, usageV g t b f] w (StepC w c F (m.report g t b f) (n + 1)) := by
  obtain ⟨N, rfl, h⟩ := h
  have hR : m.report g t b f = ⟨m.rep g b f, 0⟩ := by unfold CoM.report; rw [if_pos he]
  have hlen := h.ok.len
  have hn' : n < 8796093022208 := hn
  have hc := CoM.rep_ok he
  have hg1 := hc.g1
  have hg2 := hc.g2
  obtain ⟨i, ei⟩ : ∃ i : Nat, g = (i : Int) + 1 := ⟨g.toNat - 1, by omega⟩
  have hi : i < m.loans.length := by omega
  obtain ⟨gb, cur, hga, hcur, -, hcl, hlc, -, g0, g1⟩ := h.grant hi
  have eat : m.loans.getD i .zero = m.at g := by unfold CoM.at; rw [show g.toNat - 1 = i by omega]
  rw [eat] at g0 g1
  obtain ⟨⟨p, hp⟩, hub, hby, htn⟩ := h.ok.ln (m.at g) (CoM.at_mem ⟨hg1, hg2⟩)
  obtain ⟨q1, q2, q3, q4, q5, q6, q7⟩ := h.ok.pr _ p hp
  have hgi : In64 g := by unfold In64; omega
  obtain ⟨a1, a2, a3⟩ := h.apart
  obtain ⟨b1, b2, b3, b4, b5, b6⟩ := a3 _ p hp
  obtain ⟨bg1, bg2⟩ := b5 _ hga
  have bg1 : N.ub (m.at g).who ≠ gb := bg1
  have bg2 : N.mb (m.at g).who ≠ gb := bg2
  have bum := b6 _ p hp
  obtain ⟨hRN, hhas⟩ := RepN.of h.ok he hp f
  obtain ⟨W, eW⟩ : ∃ W, W = w.alloc (.cells #[.int .i64 g, .int .i64 t, .int .i64 b, .bool f] 70) := ⟨_, rfl⟩
  have hkW : Kept [] w W := by rw [eW]; exact (Kept.refl _ w).alloc _
  have hUW : At W w.heap.size 70 [.int .i64 g, .int .i64 t, .int .i64 b, .bool f] := by rw [eW]; exact at_alloc w _ [.int .i64 g, .int .i64 t, .int .i64 b, .bool f]
  have hbW : Below w.heap.size w W.drew.drew := by rw [eW]; exact ((Below.refl _ w).alloc (Nat.le_refl _) _).drew.drew
  have u0 : W.cell? ⟨w.heap.size, 0, none⟩ = some (.int .i64 g) := hUW.cell 0
  have u1 : W.cell? ⟨w.heap.size, 1, none⟩ = some (.int .i64 t) := hUW.cell 1
  have u2 : W.cell? ⟨w.heap.size, 2, none⟩ = some (.int .i64 b) := hUW.cell 2
  have u3 : W.cell? ⟨w.heap.size, 3, none⟩ = some (.bool f) := hUW.cell 3
  have hW := h.kept hkW (by simp)
  have c2 := hW.head.2.2
  rw [hga] at c2
  have hW2 := hW.kept (T := []) (Kept.refl _ W).drew.drew (by simp)
  have hck := ccheck_any (f := f) hW2 hi ei hga hgi ht hb (by unfold manyN; omega)
  rw [he] at hck
  have hus : w.heap.size ≠ gb ∧ w.heap.size ≠ N.ub (m.at g).who ∧ w.heap.size ≠ N.mb (m.at g).who := by
    have l1 := hcur.lt
    have l2 := (h.ur _ p hp).lt
    have l3 := (h.op _ p hp).lt
    omega
  have HC : Hid (∀ w3, Below W.drew.drew.heap.size W.drew.drew w3 → w3.cell? ⟨gb, i * 2 + 1, none⟩ = some (.int .i64 ((m.at g).turn : Nat)) ∧ w3.frozen? ⟨gb, i * 2 + 1, none⟩ = false ∧ w3.cell? ⟨gb, i * 2, none⟩ = some (ptrV (N.ub (m.at g).who)) ∧ w3.cell? ⟨w.heap.size, 0, none⟩ = some (.int .i64 g) ∧ w3.cell? ⟨w.heap.size, 1, none⟩ = some (.int .i64 t) ∧ w3.cell? ⟨w.heap.size, 2, none⟩ = some (.int .i64 b) ∧ w3.cell? ⟨w.heap.size, 3, none⟩ = some (.bool f) ∧
      ∀ wz, Kept [] (w3.setCell ⟨gb, i * 2 + 1, none⟩ (.int .i64 t)) wz → Calls Try.prog 83 #[ptrV (N.ub (m.at g).who), usageV g t b f] wz fun e w5 => e = .returned (.tuple #[]) ∧ w5.cell? ⟨gb, i * 2, none⟩ = some (ptrV (N.ub (m.at g).who)) ∧ w5.cell? ⟨w.heap.size, 0, none⟩ = some (.int .i64 g) ∧ w5.cell? ⟨w.heap.size, 3, none⟩ = some (.bool f) ∧
        (f = false → ∀ wy, Kept [] w5 wy → StepC w c (coF c N m) (m.report g t b f) (n + 1) (.returned (.int .i64 0)) wy) ∧
        (f = true → ∀ wy, Kept [] w5 wy → Calls Try.prog 84 #[ptrV (N.ub (m.at g).who), .int .i64 g] wy fun e w6 => e = .returned (.tuple #[]) ∧ ∀ wx, Kept [] w6 wx → StepC w c (coF c N m) (m.report g t b f) (n + 1) (.returned (.int .i64 0)) wx)) := hid fun w3 hb3 => by
    have hb' := bthen hbW hb3
    have hk3 : Kept [] w w3 := Kept.of_below hb'
    have h3 := h.kept hk3 (by simp)
    have hU3 : At w3 w.heap.size 70 _ := (hUW.kept (S := []) (Kept.refl _ W).drew.drew (by simp)).kept (Kept.of_below (S := []) hb3) (by simp)
    have hc3 := hcur.kept hk3 (by simp)
    refine ⟨keptCellQ hk3 g1 (by simp), hc3.free _, keptCellQ hk3 g0 (by simp), hU3.cell 0, hU3.cell 1, hU3.cell 2, hU3.cell 3, fun wz hkz => ?_⟩
    have hkS : Kept [gb] w3 (w3.setCell ⟨gb, i * 2 + 1, none⟩ (.int .i64 t)) := (Kept.refl _ w3).setCell (by simp) _
    have hkz3 : Kept [gb] w3 wz := hkS.trans (hkz.wider (by simp))
    have hGz : At wz gb 156 (cur.set (i * 2 + 1) (.int .i64 t)) := (hc3.setCell (o := i * 2 + 1) (.int .i64 t)).kept hkz (by simp)
    have hAz := (h3.ur _ p hp).kept hkz3 (by simpa using bg1)
    have hIz := (h3.op _ p hp).kept hkz3 (by simpa using bg2)
    have hUz := hU3.kept hkz3 (by simpa using hus.1)
    have hopv := opV_at (ls := m.loans) hi ei
    rw [eat, hc.op, if_neg (by simp)] at hopv
    have hbb : 0 ≤ b ∧ b ≤ (((m.at g).bytes - (m.at g).used : Nat) : Int) := ⟨hc.b0, hc.b1⟩
    refine (ccharge_any hAz hIz hgi hopv hbb (by omega) (by omega) (by omega) (by unfold maxLen; omega)).mono ?_
    rintro e w5 ⟨rfl, hA5, hI5, hk5⟩
    have hG5 := hGz.kept hk5 (by simpa using ⟨fun e => bg1 e.symm, fun e => bg2 e.symm⟩)
    have hU5 := hUz.kept hk5 (by simpa using ⟨hus.2.1, hus.2.2⟩)
    have hk35 : Kept [gb, N.ub (m.at g).who, N.mb (m.at g).who] w3 w5 := (hkz3.wider (by simp)).trans (hk5.wider (by simp))
    have hcell : w5.cell? ⟨gb, i * 2, none⟩ = some (ptrV (N.ub (m.at g).who)) := by
      rw [hG5.cell, List.getElem?_set_ne (by omega), ← hcur.cell]
      exact g0
    refine ⟨rfl, hcell, hU5.cell 0, hU5.cell 3, fun hf wy hky => ?_, fun hf wy hky => ?_⟩
    · subst hf
      simp only [Bool.false_eq_true, if_false] at hRN
      obtain ⟨r1, r2, r3⟩ := h3.reports he hp hi ei hga hc3 (hk35.trans (hky.wider (by simp))) (hG5.kept hky (by simp)) hRN (hA5.kept hky (by simp)) (by
        have := hI5.kept hky (by simp)
        simpa using this)
      rw [hR]
      refine ⟨rfl, (hk3.wider (by simp)).trans r3, _, ⟨N, rfl, r1⟩, fun x hx => ?_⟩
      rcases r2 x hx with r | r
      · exact .inl r
      · exact .inr (Nat.le_trans hk3.size r)
    · subst hf
      simp only [if_true] at hRN
      have hAy := hA5.kept hky (by simp)
      have hIy := hI5.kept hky (by simp)
      have hl0 : (0 : Int) ≤ (m.left (m.at g).who p : Nat) ∧ ((m.left (m.at g).who p : Nat) : Int) ≤ 1000000000 := by unfold CoM.left; omega
      refine (cclose_any hAy hIy hgi (updI_same _ _ _) ⟨by omega, by omega⟩ hl0 (by omega)).mono ?_
      rintro e w6 ⟨rfl, hA6, hI6, hk6⟩
      refine ⟨rfl, fun wx hkx => ?_⟩
      have hk36 : Kept [gb, N.ub (m.at g).who, N.mb (m.at g).who] w3 wx := ((hk35.trans (hky.wider (by simp))).trans (hk6.wider (by simp))).trans (hkx.wider (by simp))
      obtain ⟨r1, r2, r3⟩ := h3.reports he hp hi ei hga hc3 hk36 (((hG5.kept hky (by simp)).kept hk6 (by simpa using ⟨fun e => bg1 e.symm, fun e => bg2 e.symm⟩)).kept hkx (by simp)) hRN (hA6.kept hkx (by simp)) (by
        refine (hI6.kept hkx (by simp)).congr fun j => ?_
        simp only [if_true]
        unfold updI
        by_cases ej : j = g
        · simp [ej]
        · simp [ej])
      rw [hR]
      refine ⟨rfl, (hk3.wider (by simp)).trans r3, _, ⟨N, rfl, r1⟩, fun x hx => ?_⟩
      rcases r2 x hx with r | r
      · exact .inl r
      · exact .inr (Nat.le_trans hk3.size r)
  have hgbs : ¬ gb = w.heap.size := fun e => hus.1 e.symm
  generalize StepC w c (coF c N m) (m.report g t b f) (n + 1) = P at *
  generalize m.loans.length = LL at *
  generalize N.ub (m.at g).who = ub at *
  generalize N.mb (m.at g).who = mb at *
  generalize (m.at g).turn = T at *
  have e1 : ¬ g < 1 := by omega
  have e2 : ¬ (LL : Int) < g := by omega
  have e3 : g - 1 = (i : Int) := by omega
  clear h hR hUW hW hW2 hga hb ht hRN hc hp eat ei a1 a2 a3 b1 b2 b3 b4 b5 b6 he hcur hub hby htn q1 q2 q3 q4 q5 q6 q7 hhas g0 g1 hus
  unfold ptrV usageV at *
  cases f with
  | false =>
    go_enter Try.func34, Try.ntmps34
    go_upto_region 1 with fail
    rw [← eW]
    clear eW
    go_region
    go_upto_region 3 with fail
    go_region
    go_upto_region 8 with (go_at_call 82; refine hck.mono ?_; rintro e w3 ⟨rfl, hb3⟩; obtain ⟨k1, k2, k3, k4, k5, k6, k7, hG⟩ := HC.out w3 hb3)
    go_region_with (go_at_call 83; refine (hG _ (by first | exact Kept.refl _ _ | exact (Kept.refl _ _).drew | exact (Kept.refl _ _).drewN _)).mono ?_; rintro e' w5 ⟨rfl, n0, n1, n2, hP, -⟩)
    all_goals
      go_wp2_with fail
      exact hP (by trivial) _ (by first | exact Kept.refl _ _ | exact (Kept.refl _ _).drew | exact (Kept.refl _ _).drewN _)
  | true =>
    go_enter Try.func34, Try.ntmps34
    go_upto_region 1 with fail
    rw [← eW]
    clear eW
    go_region
    go_upto_region 3 with fail
    go_region
    go_upto_region 8 with (go_at_call 82; refine hck.mono ?_; rintro e w3 ⟨rfl, hb3⟩; obtain ⟨k1, k2, k3, k4, k5, k6, k7, hG⟩ := HC.out w3 hb3)
    go_region_with (go_at_call 83; refine (hG _ (by first | exact Kept.refl _ _ | exact (Kept.refl _ _).drew | exact (Kept.refl _ _).drewN _)).mono ?_; rintro e' w5 ⟨rfl, n0, n1, n2, -, hP⟩)
    all_goals
      go_upto_region 10 with fail
      go_region_with (go_at_call 84; refine (hP (by trivial) _ (by first | exact Kept.refl _ _ | exact (Kept.refl _ _).drew | exact (Kept.refl _ _).drewN _)).mono ?_; rintro e'' w6 ⟨rfl, hP6⟩)
      all_goals
        go_wp2_with fail
        first | exact Kept.refl _ _ | exact (Kept.refl _ _).drew | exact (Kept.refl _ _).drewN _
theorem StepC.mono {w w' : World} {c : Nat} {F : List Nat} {r : CoR} {n n' : Nat} {e : Ending} (h : StepC w c F r n e w') (hn : n ≤ n') : StepC w c F r n' e w' := by
  obtain ⟨h1, h2, F', ⟨N, h3, h4⟩, h5⟩ := h
  exact ⟨h1, h2, F', ⟨N, h3, h4.mono hn⟩, h5⟩
theorem creport_any {w : World} {c : Nat} {F : List Nat} {m : CoM} {n : Nat} (n' : Nat) {g t b : Int} {f : Bool} (h : PCo w c F m n) (hg : In64 g) (ht : In64 t) (hb : In64 b) (hn : n < manyN) (h0 : n ≤ n') (h1 : m.repErr g t b = 0 → n + 1 ≤ n') : Calls Try.prog 34 #[ptrV c, usageV g t b f] w (StepC w c F (m.report g t b f) n') := by
  by_cases hr : 1 ≤ g ∧ g ≤ (m.loans.length : Int)
  · by_cases he : m.repErr g t b = 0
    · exact (creport_good h ht hb hn he).mono fun e w' hs => hs.mono (h1 he)
    · exact (creport_bad h ht hb hn hr he).mono fun e w' hs => hs.mono h0
  · exact (creport_absent h hg hr).mono fun e w' hs => hs.mono h0
end Go.Proofs.Ytcnkcbipkchoiag
namespace Go.Proofs.Ytcnkcbipkchoiag
open Go.ChangeShapes Go.WideShapes Go.ChangeAt Go.RowKit Go.Maps
/-- Seventeen numbers. -/
def ArN (w : World) (g : Nat) (f : Nat → Int) : Prop := At w g 82 ((List.range 17).map fun i => .int .i64 (f i))
theorem ArN.cell {w : World} {g : Nat} {f : Nat → Int} (h : ArN w g f) {j : Nat} (hj : j < 17) : w.cell? ⟨g, j, none⟩ = some (.int .i64 (f j)) := by
  rw [At.cell h, List.getElem?_map, List.getElem?_range hj]
  rfl
theorem ArN.set {w : World} {g : Nat} {f f' : Nat → Int} (h : ArN w g f) {j : Nat} {x : Int} (e : ∀ i, i < 17 → f' i = if i = j then x else f i) : ArN (w.setCell ⟨g, j, none⟩ (.int .i64 x)) g f' := by
  have h1 := At.setCell (o := j) h (.int .i64 x)
  unfold ArN
  have : ((List.range 17).map fun i => Value.int .i64 (f' i)) = ((List.range 17).map fun i => Value.int .i64 (f i)).set j (.int .i64 x) := by
    refine List.ext_getElem (by simp) fun i h1 h2 => ?_
    have hi : i < 17 := by simpa using h1
    rw [List.getElem_set]
    simp only [List.getElem_map, List.getElem_range]
    by_cases ej : j = i
    · rw [if_pos ej, e i hi, if_pos ej.symm]
    · rw [if_neg ej, e i hi, if_neg fun e => ej e.symm]
  rw [this]
  exact h1
def whV (ls : List LnM) : Int → Option Value := fun g => if 1 ≤ g ∧ g ≤ (ls.length : Int) then some (.int .i64 (ls.getD (g.toNat - 1) .zero).who) else none
theorem whV_congr {ls ls' : List LnM} (hl : ls'.length = ls.length) (h : ∀ i, i < ls.length → (ls'.getD i .zero).who = (ls.getD i .zero).who) : whV ls' = whV ls := by
  funext g
  unfold whV
  rw [hl]
  by_cases hr : 1 ≤ g ∧ g ≤ (ls.length : Int)
  · rw [if_pos hr, if_pos hr, h _ (by omega)]
  · rw [if_neg hr, if_neg hr]
theorem whV_shut (k : Int) (ls : List LnM) : whV (shutL k ls) = whV ls := whV_congr (shutL_len _ _) fun i hi => by
  rw [shutL_at hi]
  split <;> rfl
/-- All that stands: the core, quotas, what was charged, whose the grants are. -/
structure KeF (w0 w : World) (c qb hb wm : Nat) (F : List Nat) (m : CoM) (n nw : Nat) (q h : Nat → Int) (V : Int → Option Value) : Prop where
  co : PCo w c F m n
  qa : ArN w qb q
  ha : ArN w hb h
  wp : IMap w wm nw V
  nq : qb ∉ F
  nh : hb ∉ F
  nW : wm ∉ F
  qh : qb ≠ hb
  lo : ∀ x ∈ F, w0.heap.size ≤ x
  lq : w0.heap.size ≤ qb ∧ w0.heap.size ≤ hb ∧ w0.heap.size ≤ wm
  bl : Below w0.heap.size w0 w
def Ke (w0 w : World) (c qb hb wm : Nat) (m : CoM) (n nw : Nat) (q h : Nat → Int) (V : Int → Option Value) : Prop := ∃ F, KeF w0 w c qb hb wm F m n nw q h V
theorem keptLow {w0 w w' : World} {S : List Nat} (h : Below w0.heap.size w0 w) (hk : Kept S w w') (hs : ∀ x ∈ S, w0.heap.size ≤ x) : Below w0.heap.size w0 w' := by
  refine ⟨hk.os.trans h.os, hk.tape.trans h.tape, hk.output.trans h.output, Nat.le_trans h.size hk.size, fun j hj => ?_⟩
  rw [hk.block j (Nat.lt_of_lt_of_le hj h.size) (fun e => by have := hs j e; omega), h.block j hj]
/-- A call of the core. -/
theorem KeF.step {w0 w w' : World} {c qb hb wm n n' nw : Nat} {F F' : List Nat} {m m' : CoM} {q h : Nat → Int} {V : Int → Option Value} (k : KeF w0 w c qb hb wm F m n nw q h V) (hk : Kept F w w') (co : PCo w' c F' m' n') (hg : Grown w.heap.size F F') : Ke w0 w' c qb hb wm m' n' nw q h V := by
  refine ⟨F', co, At.kept k.qa hk k.nq, At.kept k.ha hk k.nh, k.wp.kept hk k.nW, hg.out k.nq (At.lt k.qa), hg.out k.nh (At.lt k.ha), hg.out k.nW k.wp.lt, k.qh, hg.low k.lo k.bl.size, k.lq, keptLow k.bl hk k.lo⟩
/-- Something new, or nothing. -/
theorem PCo.kept {w w' : World} {c : Nat} {F : List Nat} {m : CoM} {n : Nat} {T : List Nat} (h : PCo w c F m n) (hk : Kept T w w') (hd : ∀ x ∈ F, x ∉ T) : PCo w' c F m n := by
  obtain ⟨N, rfl, h⟩ := h
  exact ⟨N, rfl, h.kept hk hd⟩
theorem PCo.mono {w : World} {c : Nat} {F : List Nat} {m : CoM} {n n' : Nat} (h : PCo w c F m n) (hn : n ≤ n') : PCo w c F m n' := by
  obtain ⟨N, rfl, h⟩ := h
  exact ⟨N, rfl, h.mono hn⟩
theorem PCo.lt {w : World} {c : Nat} {F : List Nat} {m : CoM} {n : Nat} (h : PCo w c F m n) : ∀ x ∈ F, x < w.heap.size := by
  obtain ⟨N, rfl, h⟩ := h
  exact h.lt
theorem PCo.ok {w : World} {c : Nat} {F : List Nat} {m : CoM} {n : Nat} (h : PCo w c F m n) : m.Ok n := by
  obtain ⟨N, rfl, h⟩ := h
  exact h.ok
theorem Ke.idle {w0 w w' : World} {c qb hb wm n nw : Nat} {m : CoM} {q h : Nat → Int} {V : Int → Option Value} (k : Ke w0 w c qb hb wm m n nw q h V) (hk : Kept [] w w') : Ke w0 w' c qb hb wm m n nw q h V := by
  obtain ⟨F, k⟩ := k
  exact k.step (hk.wider (by simp)) (k.co.kept hk (by simp)) (fun x hx => .inl hx)
theorem Ke.mono {w0 w : World} {c qb hb wm n n' nw : Nat} {m : CoM} {q h : Nat → Int} {V : Int → Option Value} (k : Ke w0 w c qb hb wm m n nw q h V) (hn : n ≤ n') : Ke w0 w c qb hb wm m n' nw q h V := by
  obtain ⟨F, k⟩ := k
  exact k.step (Kept.refl _ _) (k.co.mono hn) (fun x hx => .inl hx)
theorem Ke.ok {w0 w : World} {c qb hb wm n nw : Nat} {m : CoM} {q h : Nat → Int} {V : Int → Option Value} (k : Ke w0 w c qb hb wm m n nw q h V) : m.Ok n := by
  obtain ⟨F, k⟩ := k
  exact k.co.ok
theorem Ke.bl {w0 w : World} {c qb hb wm n nw : Nat} {m : CoM} {q h : Nat → Int} {V : Int → Option Value} (k : Ke w0 w c qb hb wm m n nw q h V) : Below w0.heap.size w0 w := by
  obtain ⟨F, k⟩ := k
  exact k.bl
theorem Ke.look {w0 w : World} {c qb hb wm n nw : Nat} {m : CoM} {q h : Nat → Int} {V : Int → Option Value} (k : Ke w0 w c qb hb wm m n nw q h V) {g x : Int} (hg : In64 g) (hx : V g = some (.int .i64 x)) : (Instr.lookup 84 (.map (some wm)) (.int .i64 g) false).run Try.prog w = .ok (.int .i64 x) w := by
  obtain ⟨F, k⟩ := k
  have := k.wp.look hg Try.underlying84 (Try.zeroMI w) (x := .int .i64 x) (by rw [hx]; rfl) rfl false
  simpa using this
/-- What the books say. -/
structure KeS (m : CoM) (q h : Nat → Int) : Prop where
  qq : ∀ k p, m.per k = some p → q k.toNat = (p.quota : Int)
  hh : ∀ k : Int, 0 ≤ k → k ≤ 16 → h k.toNat = (m.chgd k : Int)
theorem KeS.same {m m' : CoM} {q h : Nat → Int} (s : KeS m q h) (h1 : ∀ k p', m'.per k = some p' → ∃ p, m.per k = some p ∧ p'.quota = p.quota) (h2 : ∀ k, m'.chgd k = m.chgd k) : KeS m' q h := ⟨fun k p' hp => by
  obtain ⟨p, e, e'⟩ := h1 k p' hp
  rw [s.qq k p e, e'], fun k k0 k1 => by rw [s.hh k k0 k1, h2]⟩
theorem CoM.leave_per {m : CoM} {x k : Int} {p' : PrM} (h : (m.leave x).m.per k = some p') : ∃ p, m.per k = some p ∧ p'.quota = p.quota := by
  unfold CoM.leave at h
  cases hp : m.per x with
  | none => rw [hp] at h; exact ⟨p', h, rfl⟩
  | some p =>
    rw [hp] at h
    by_cases ht : tNot 0 p = true
    · simp only [ht, if_true] at h
      have h : (if k = x then some (⟨p.quota, 0, 0⟩ : PrM) else m.per k) = some p' := h
      by_cases e : k = x
      · rw [if_pos e] at h
        injection h with h
        exact ⟨p, by rw [e]; exact hp, by rw [← h]⟩
      · rw [if_neg e] at h
        exact ⟨p', h, rfl⟩
    · simp only [ht] at h
      exact ⟨p', h, rfl⟩
theorem CoM.leave_loans (m : CoM) (x : Int) : whV (m.leave x).m.loans = whV m.loans ∧ ∀ k, (m.leave x).m.chgd k = m.chgd k := by
  unfold CoM.leave
  cases hp : m.per x with
  | none => exact ⟨rfl, fun _ => rfl⟩
  | some p =>
    by_cases ht : tNot 0 p = true
    · simp only [ht, if_true]
      exact ⟨whV_shut _ _, fun k => shutL_used k x m.loans⟩
    · simp only [ht]
      exact ⟨rfl, fun _ => rfl⟩
theorem CoM.attach_per {m : CoM} {x y k : Int} {p' : PrM} (h : (m.attach x y).m.per k = some p') : ∃ p, m.per k = some p ∧ p'.quota = p.quota := by
  unfold CoM.attach CoM.move at h
  cases hp : m.per x with
  | none => rw [hp] at h; exact ⟨p', h, rfl⟩
  | some p =>
    rw [hp] at h
    by_cases hc : [y].all okCell = true
    · by_cases ht : tIs 0 p = true
      · simp only [hc, ht, if_true] at h
        have h : (if k = x then some (⟨p.quota, 1, y.toNat⟩ : PrM) else m.per k) = some p' := h
        by_cases e : k = x
        · rw [if_pos e] at h
          injection h with h
          exact ⟨p, by rw [e]; exact hp, by rw [← h]⟩
        · rw [if_neg e] at h
          exact ⟨p', h, rfl⟩
      · simp only [hc, ht, if_true] at h
        exact ⟨p', h, rfl⟩
    · simp only [hc] at h
      exact ⟨p', h, rfl⟩
theorem CoM.attach_loans (m : CoM) (x y : Int) : (m.attach x y).m.loans = m.loans := by
  unfold CoM.attach CoM.move
  cases hp : m.per x with
  | none => rfl
  | some p =>
    by_cases hc : [y].all okCell = true
    · by_cases ht : tIs 0 p = true
      · simp only [hc, ht, if_true]
        rfl
      · simp only [hc, ht, if_true]
        rfl
    · simp only [hc]
      rfl
theorem CoM.lent'_loans (m : CoM) (x : Int) : (∀ k, (m.lent' x).chgd k = m.chgd k) ∧ (m.lent' x).per = m.per := by
  unfold CoM.lent'
  split
  · refine ⟨fun k => ?_, rfl⟩
    show usedL k (m.loans ++ [_]) = usedL k m.loans
    rw [usedL_app]
    simp [usedL, LnM.uc]
  · exact ⟨fun _ => rfl, rfl⟩
end Go.Proofs.Ytcnkcbipkchoiag
