import Derived.Test.YtcnkcbipkchoiagKeB
namespace Go.Proofs.Ytcnkcbipkchoiag
open Go.ChangeShapes Go.WideShapes Go.ChangeAt Go.RowKit Go.Maps

/-! THE LAW CoreKeeps: the books. -/

structure UsgM where
  g : Int
  t : Int
  b : Int
  f : Bool
def UsgM.zero : UsgM := ⟨0, 0, 0, false⟩
/-- Reports that come in. -/
def Usg (w : World) (a : Option Addr) (us : List UsgM) : Prop := us ≠ [] → ∃ b o, a = some ⟨b, o, none⟩ ∧ ∀ i, i < us.length → w.cell? ⟨b, o + i * 4, none⟩ = some (.int .i64 (us.getD i .zero).g) ∧ w.cell? ⟨b, o + i * 4 + 1, none⟩ = some (.int .i64 (us.getD i .zero).t) ∧ w.cell? ⟨b, o + i * 4 + 2, none⟩ = some (.int .i64 (us.getD i .zero).b) ∧ w.cell? ⟨b, o + i * 4 + 3, none⟩ = some (.bool (us.getD i .zero).f)
def UsgM.ok (u : UsgM) : Prop := In64 u.g ∧ In64 u.t ∧ In64 u.b
theorem Usg.at {w w' : World} {a : Option Addr} {us : List UsgM} (h : Usg w a us) (hb : Below w.heap.size w w') {i : Nat} (hi : i < us.length) : ∃ b o, a = some ⟨b, o, none⟩ ∧ w'.cell? ⟨b, o + i * 4, none⟩ = some (.int .i64 (us.getD i .zero).g) ∧ w'.cell? ⟨b, o + i * 4 + 1, none⟩ = some (.int .i64 (us.getD i .zero).t) ∧ w'.cell? ⟨b, o + i * 4 + 2, none⟩ = some (.int .i64 (us.getD i .zero).b) ∧ w'.cell? ⟨b, o + i * 4 + 3, none⟩ = some (.bool (us.getD i .zero).f) := by
  obtain ⟨b, o, rfl, hc⟩ := h (by intro e; subst e; simp at hi)
  obtain ⟨h0, h1, h2, h3⟩ := hc i hi
  exact ⟨b, o, rfl, (hb.cell (World.block_lt_of_cell? w _ h0)).trans h0, (hb.cell (World.block_lt_of_cell? w _ h1)).trans h1, (hb.cell (World.block_lt_of_cell? w _ h2)).trans h2, (hb.cell (World.block_lt_of_cell? w _ h3)).trans h3⟩
theorem rep_chgd {m : CoM} {g t b : Int} (f : Bool) (he : m.repErr g t b = 0) (k : Int) : (m.rep g b f).chgd k = if k = (m.at g).who then m.chgd k + b.toNat else m.chgd k := by
  have hc := CoM.rep_ok he
  have hi : g.toNat - 1 < m.loans.length := by have := hc.g1; have := hc.g2; omega
  have e2 := usedL_set k ⟨(m.at g).who, (m.at g).bytes, (m.at g).used + b.toNat, (m.at g).turn + 1, f⟩ m.loans _ hi
  have ea : m.loans.getD (g.toNat - 1) .zero = m.at g := rfl
  rw [ea] at e2
  show usedL k (m.loans.set _ _) = if k = (m.at g).who then usedL k m.loans + b.toNat else usedL k m.loans
  simp only [LnM.uc] at e2
  by_cases e : k = (m.at g).who
  · rw [if_pos e]
    rw [if_pos e.symm, if_pos e.symm] at e2
    omega
  · rw [if_neg e]
    rw [if_neg (fun e' => e e'.symm), if_neg (fun e' => e e'.symm)] at e2
    omega
theorem rep_again {m : CoM} {g t b : Int} (f : Bool) (he : m.repErr g t b = 0) : (m.rep g b f).repErr g t b = 10 := by
  have hc := CoM.rep_ok he
  have g1 := hc.g1
  have g2 := hc.g2
  have hi : g.toNat - 1 < m.loans.length := by omega
  have hat : (m.rep g b f).at g = ⟨(m.at g).who, (m.at g).bytes, (m.at g).used + b.toNat, (m.at g).turn + 1, f⟩ := getD_setLS hi
  have hl : (m.rep g b f).loans.length = m.loans.length := List.length_set ..
  unfold CoM.repErr
  rw [hl, if_pos ⟨g1, g2⟩, hat, if_pos]
  have := hc.t1
  show 1 ≤ t ∧ t ≤ (((m.at g).turn + 1 : Nat) : Int)
  omega
theorem rep_whV {m : CoM} {g t b : Int} (f : Bool) (he : m.repErr g t b = 0) : whV (m.rep g b f).loans = whV m.loans ∧ whV m.loans g = some (.int .i64 (m.at g).who) := by
  have hc := CoM.rep_ok he
  have g1 := hc.g1
  have g2 := hc.g2
  exact ⟨whV_set (by omega) rfl, by unfold whV; rw [if_pos ⟨g1, g2⟩]; rfl⟩
theorem rep_some {m : CoM} {n : Nat} {g t b : Int} (h : m.Ok n) (he : m.repErr g t b = 0) : ∃ p, m.per (m.at g).who = some p ∧ 1 ≤ (m.at g).who ∧ (m.at g).who ≤ 16 ∧ m.chgd (m.at g).who ≤ 1000000000 ∧ 0 ≤ b ∧ b ≤ 1000000 := by
  have hc := CoM.rep_ok he
  obtain ⟨⟨p, hp⟩, h2, h3, -⟩ := h.ln _ (CoM.at_mem ⟨hc.g1, hc.g2⟩)
  obtain ⟨q1, q2, q3, -, -, -, q7⟩ := h.pr _ p hp
  have := hc.b0
  have := hc.b1
  exact ⟨p, hp, q1, q2, by omega, by omega, by omega⟩
theorem KeS.rep {m : CoM} {n : Nat} {q h : Nat → Int} {g t b : Int} (f : Bool) (s : KeS m q h) (ho : m.Ok n) (he : m.repErr g t b = 0) : KeS (m.rep g b f) q (fun i => if i = (m.at g).who.toNat then h (m.at g).who.toNat + b else h i) := by
  obtain ⟨p, hp, k1, k2, -, b0, -⟩ := rep_some ho he
  refine ⟨fun k p' hk => s.qq k p' hk, fun k h0 h1 => ?_⟩
  rw [rep_chgd f he k]
  by_cases e : k = (m.at g).who
  · subst e
    rw [if_pos rfl, if_pos rfl, s.hh _ h0 h1]
    omega
  · rw [if_neg e, if_neg (by omega), s.hh _ h0 h1]
theorem KeS.lend {m : CoM} {q h : Nat → Int} (x : Int) (s : KeS m q h) : KeS (m.lent' x) q h := s.same (fun k p' hp => ⟨p', by rw [(CoM.lent'_loans m x).2] at hp; exact hp, rfl⟩) (CoM.lent'_loans m x).1
theorem KeS.leave {m : CoM} {q h : Nat → Int} (x : Int) (s : KeS m q h) : KeS (m.leave x).m q h := s.same (fun _ _ hp => CoM.leave_per hp) (CoM.leave_loans m x).2
theorem KeS.attach {m : CoM} {q h : Nat → Int} (x y : Int) (s : KeS m q h) : KeS (m.attach x y).m q h := s.same (fun _ _ hp => CoM.attach_per hp) (fun k => by show usedL k _ = usedL k _; rw [CoM.attach_loans])
theorem ke_again {w0 w : World} {c qb hb wm n nw : Nat} {m : CoM} {q h : Nat → Int} {V : Int → Option Value} (k : Ke w0 w c qb hb wm m n nw q h V) {g t b : Int} {f : Bool} (hg : In64 g) (ht : In64 t) (hb' : In64 b) (hn : n < manyN) (he : m.repErr g t b = 10) (T : TypeId) (cur : List Value) : Calls Try.prog 34 #[ptrV c, usageV g t b f] (w.alloc (.cells cur.toArray T)) fun e w' => e = .returned (.int .i64 10) ∧ Ke w0 w' c qb hb wm m n nw q h V ∧ At w' w.heap.size T cur := by
  obtain ⟨F, k⟩ := k
  have hA := at_alloc w T cur
  obtain ⟨F1, k1⟩ := Ke.idle ⟨F, k⟩ ((Kept.refl _ w).alloc (.cells cur.toArray T))
  have k2 : KeF w0 (w.alloc (.cells cur.toArray T)) c qb hb wm F m n nw q h V := by
    have hk : Kept [] w (w.alloc (.cells cur.toArray T)) := (Kept.refl _ w).alloc _
    exact ⟨k.co.kept hk (by simp), At.kept k.qa hk (by simp), At.kept k.ha hk (by simp), k.wp.kept hk (by simp), k.nq, k.nh, k.nW, k.qh, k.lo, k.lq, keptLow k.bl hk (by simp)⟩
  have hr : m.report g t b f = ⟨m, 10⟩ := by unfold CoM.report; rw [he]; rfl
  refine (creport_any (f := f) n k2.co hg ht hb' hn (Nat.le_refl _) (fun h => by rw [he] at h; simp at h)).mono ?_
  rintro e w' ⟨h1, h2, F', h3, h4⟩
  rw [hr] at h1 h3
  refine ⟨h1, k2.step h2 h3 h4, hA.kept h2 (fun e => Nat.lt_irrefl _ (k.co.lt _ e))⟩
theorem report_bad {m : CoM} {g t b : Int} {f : Bool} (h : m.repErr g t b ≠ 0) : m.report g t b f = ⟨m, m.repErr g t b⟩ := by unfold CoM.report; rw [if_neg h]
theorem report_good {m : CoM} {g t b : Int} {f : Bool} (h : m.repErr g t b = 0) : m.report g t b f = ⟨m.rep g b f, 0⟩ := by unfold CoM.report; rw [if_pos h]
theorem Ke.hcell {w0 w : World} {c qb hb wm n nw : Nat} {m : CoM} {q h : Nat → Int} {V : Int → Option Value} (k : Ke w0 w c qb hb wm m n nw q h V) {j : Nat} (hj : j < 17) : w.cell? ⟨hb, j, none⟩ = some (.int .i64 (h j)) ∧ w.frozen? ⟨hb, j, none⟩ = false ∧ w.cell? ⟨qb, j, none⟩ = some (.int .i64 (q j)) := by
  obtain ⟨F, k⟩ := k
  exact ⟨k.ha.cell hj, At.free k.ha j, k.qa.cell hj⟩
/-- The state of a round. -/
def KeR (w0 w : World) (c qb hb wm : Nat) (q : Nat → Int) (N M : Nat) : Prop := ∃ m n nw h, Ke w0 w c qb hb wm m n nw q h (whV m.loans) ∧ KeS m q h ∧ n ≤ N ∧ nw ≤ M
end Go.Proofs.Ytcnkcbipkchoiag
