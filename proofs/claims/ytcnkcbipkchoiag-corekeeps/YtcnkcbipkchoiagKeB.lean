import Derived.Test.YtcnkcbipkchoiagKeA
import Derived.Deep.DeepCutAuto
namespace Go.Proofs.Ytcnkcbipkchoiag
open Go.ChangeShapes Go.WideShapes Go.ChangeAt Go.RowKit Go.Maps

/-! THE LAW CoreKeeps: people join. -/

theorem and_lowC (x : Int) (i : Nat) (hi : i ≤ 62) : bits BinOp.and IntKind.i64 x (2 ^ i - 1) = x % 2 ^ i := by
  have hp : (0 : Int) < 2 ^ i := Int.pow_pos (by decide)
  have hle : (2 : Int) ^ i ≤ 2 ^ 62 := by exact_mod_cast Nat.pow_le_pow_right (by decide) hi
  have hnat : 2 ^ i - 1 < 2 ^ 64 := by
    have : 2 ^ i ≤ 2 ^ 62 := Nat.pow_le_pow_right (by decide) hi
    omega
  have hc : ((2 : Int) ^ i - 1) = ((2 ^ i - 1 : Nat) : Int) := by
    rw [Int.natCast_sub (Nat.two_pow_pos i)]; simp
  rw [hc]
  have hb : bits BinOp.and IntKind.i64 x ((2 ^ i - 1 : Nat) : Int) = IntKind.i64.wrap (((x % ((2 ^ 64 : Nat) : Int)).toNat % 2 ^ i : Nat) : Int) := by
    have e1 : (BitVec.ofInt 64 x &&& BitVec.ofInt 64 ((2 ^ i - 1 : Nat) : Int)).toNat = (x % ((2 ^ 64 : Nat) : Int)).toNat % 2 ^ i := by
      rw [BitVec.toNat_and, BitVec.ofInt_natCast, BitVec.toNat_ofNat, BitVec.toNat_ofInt, Nat.mod_eq_of_lt hnat, Nat.and_two_pow_sub_one_eq_mod]
    exact congrArg (fun n : Nat => IntKind.i64.wrap (n : Int)) e1
  rw [hb]
  have h0 : 0 ≤ x % ((2 ^ 64 : Nat) : Int) := Int.emod_nonneg _ (by decide)
  have e : (((x % ((2 ^ 64 : Nat) : Int)).toNat % 2 ^ i : Nat) : Int) = x % 2 ^ i := by
    rw [Int.natCast_emod, Int.toNat_of_nonneg h0]
    have hd : ((2 ^ i : Nat) : Int) ∣ ((2 ^ 64 : Nat) : Int) := Int.natCast_dvd_natCast.2 (Nat.pow_dvd_pow 2 (by omega))
    rw [Int.emod_emod_of_dvd _ hd]
    simp
  rw [e, IntKind.wrap_i64]
  have h1 := Int.emod_nonneg x (Int.ne_of_gt hp)
  have h2 := Int.emod_lt_of_pos x hp
  omega
theorem and15C (x : Int) : bits BinOp.and IntKind.i64 x 15 = x % 16 := and_lowC x 4 (by decide)
theorem and1C (x : Int) : bits BinOp.and IntKind.i64 x 1 = x % 2 := and_lowC x 1 (by decide)
theorem and31C (x : Int) : bits BinOp.and IntKind.i64 x 31 = x % 32 := and_lowC x 5 (by decide)
/-- While people join. -/
structure KqF (w0 w : World) (c qb hb : Nat) (F : List Nat) (m : CoM) (n : Nat) (q h : Nat → Int) : Prop where
  co : PCo w c F m n
  qa : ArN w qb q
  ha : ArN w hb h
  nq : qb ∉ F
  nh : hb ∉ F
  qh : qb ≠ hb
  lo : ∀ x ∈ F, w0.heap.size ≤ x
  lq : w0.heap.size ≤ qb ∧ w0.heap.size ≤ hb
  bl : Below w0.heap.size w0 w
def Kq (w0 w : World) (c qb hb : Nat) (m : CoM) (n : Nat) (q h : Nat → Int) : Prop := ∃ F, KqF w0 w c qb hb F m n q h
theorem kq_step {w0 w w' : World} {c qb hb n n' : Nat} {F : List Nat} {m : CoM} {r : CoR} {q h : Nat → Int} {e : Ending} (k : KqF w0 w c qb hb F m n q h) (hs : StepC w c F r n' e w') : e = .returned (.int .i64 r.err) ∧ Kq w0 w' c qb hb r.m n' q h := by
  obtain ⟨h1, hk, F', co, hg⟩ := hs
  exact ⟨h1, F', co, At.kept k.qa hk k.nq, At.kept k.ha hk k.nh, hg.out k.nq (At.lt k.qa), hg.out k.nh (At.lt k.ha), k.qh, hg.low k.lo k.bl.size, k.lq, keptLow k.bl hk k.lo⟩
theorem kq_join {w0 w : World} {c qb hb n : Nat} {m : CoM} {q h : Nat → Int} (k : Kq w0 w c qb hb m n q h) {x : Int} (y : Int) (hx : In64 x) (hn : n ≤ manyN) : Calls Try.prog 31 #[ptrV c, .int .i64 x, .int .i64 y] w fun e w' => e = .returned (.int .i64 (m.join x y).err) ∧ Kq w0 w' c qb hb (m.join x y).m (n + 1) q h := by
  obtain ⟨F, k⟩ := k
  exact (cjoin_any y k.co hx hn).mono fun e w' hs => kq_step k hs
theorem kq_attach {w0 w : World} {c qb hb n : Nat} {m : CoM} {q h : Nat → Int} (k : Kq w0 w c qb hb m n q h) {x : Int} (y : Int) (hx : In64 x) : Calls Try.prog 32 #[ptrV c, .int .i64 x, .int .i64 y] w fun e w' => e = .returned (.int .i64 (m.attach x y).err) ∧ Kq w0 w' c qb hb (m.attach x y).m n q h := by
  obtain ⟨F, k⟩ := k
  exact (cattach_co y k.co hx).mono fun e w' hs => kq_step k hs
theorem Kq.setQ {w0 w : World} {c qb hb n : Nat} {m : CoM} {q q' h : Nat → Int} (k : Kq w0 w c qb hb m n q h) {j : Nat} {x : Int} (e : ∀ i, i < 17 → q' i = if i = j then x else q i) : Kq w0 (w.setCell ⟨qb, j, none⟩ (.int .i64 x)) c qb hb m n q' h := by
  obtain ⟨F, k⟩ := k
  have hk : Kept [qb] w (w.setCell ⟨qb, j, none⟩ (.int .i64 x)) := (Kept.refl _ w).setCell (by simp) _
  exact ⟨F, k.co.kept hk (fun y hy => by simp; exact fun e => k.nq (by rw [← e]; exact hy)), k.qa.set e, At.kept k.ha hk (by simpa using fun e => k.qh e.symm), k.nq, k.nh, k.qh, k.lo, k.lq, keptLow k.bl hk (by simpa using k.lq.1)⟩
theorem Kq.map {w0 w : World} {c qb hb n : Nat} {m : CoM} {q h : Nat → Int} (k : Kq w0 w c qb hb m n q h) : Ke w0 (w.alloc (.map #[] 0)) c qb hb w.heap.size m n 0 q h (fun _ => none) := by
  obtain ⟨F, k⟩ := k
  have hk : Kept [] w (w.alloc (.map #[] 0)) := (Kept.refl _ w).alloc _
  have hs := k.bl.size
  exact ⟨F, k.co.kept hk (by simp), At.kept k.qa hk (by simp), At.kept k.ha hk (by simp), IMap.made w, k.nq, k.nh, fun e => Nat.lt_irrefl _ (k.co.lt _ e), k.qh, k.lo, ⟨k.lq.1, k.lq.2, hs⟩, keptLow k.bl hk (by simp)⟩
theorem Kq.cell {w0 w : World} {c qb hb n : Nat} {m : CoM} {q h : Nat → Int} (k : Kq w0 w c qb hb m n q h) {j : Nat} (hj : j < 17) : w.cell? ⟨qb, j, none⟩ = some (.int .i64 (q j)) ∧ w.frozen? ⟨qb, j, none⟩ = false := by
  obtain ⟨F, k⟩ := k
  exact ⟨k.qa.cell hj, At.free k.qa j⟩
/-- What holds while people join. -/
structure KqS (m : CoM) (q : Nat → Int) : Prop where
  qq : ∀ k p, m.per k = some p → q k.toNat = (p.quota : Int)
  ls : m.loans = []
theorem CoM.join_err (m : CoM) (x y : Int) : (m.join x y).err = m.joinErr x y := by
  unfold CoM.join
  split
  · rename_i h; rw [h]
  · rfl
theorem KqS.bad {m : CoM} {q : Nat → Int} {x y : Int} (s : KqS m q) (h : (m.join x y).err ≠ 0) : KqS (m.join x y).m q := by
  rw [CoM.join_err] at h
  unfold CoM.join
  rw [if_neg h]
  exact s
theorem KqS.good {m : CoM} {q : Nat → Int} {x y : Int} {n : Nat} (hok : m.Ok n) (s : KqS m q) (h : (m.join x y).err = 0) : (1 ≤ x ∧ x ≤ 16) ∧ ((m.join x y).m.attach x 1).err = 0 ∧ KqS ((m.join x y).m.attach x 1).m (fun i => if i = x.toNat then y else q i) := by
  rw [CoM.join_err] at h
  have hj : m.join x y = ⟨m.put x ⟨y.toNat, 0, 0⟩, 0⟩ := by unfold CoM.join; rw [if_pos h]
  have hc : 1 ≤ x ∧ x ≤ 16 ∧ 0 ≤ y ∧ y ≤ 1000000000 := by
    unfold CoM.joinErr at h
    split at h
    · assumption
    · simp at h
  have hp : (m.put x ⟨y.toNat, 0, 0⟩).per x = some ⟨y.toNat, 0, 0⟩ := if_pos rfl
  rw [hj]
  refine ⟨⟨hc.1, hc.2.1⟩, ?_, ?_⟩
  · rw [show (CoM.attach (m.put x ⟨y.toNat, 0, 0⟩) x 1).err = CoM.askErr (m.put x ⟨y.toNat, 0, 0⟩) x (tIs 0) [1] from CoM.move_err _ _ _ _ _]
    unfold CoM.askErr
    rw [hp]
    rfl
  · refine ⟨fun k p' hk => ?_, by rw [CoM.attach_loans]; exact s.ls⟩
    obtain ⟨p, hk', e⟩ := CoM.attach_per hk
    have hk' : (if k = x then some (⟨y.toNat, 0, 0⟩ : PrM) else m.per k) = some p := hk'
    by_cases ek : k = x
    · rw [if_pos ek] at hk'
      injection hk' with hk'
      rw [if_pos (by rw [ek]), e, ← hk']
      show y = ((y.toNat : Nat) : Int)
      omega
    · rw [if_neg ek] at hk'
      have : ¬ k.toNat = x.toNat := fun e' => by
        have := (hok.pr k p hk').1
        omega
      rw [if_neg this, e]
      exact s.qq k p hk'
end Go.Proofs.Ytcnkcbipkchoiag
