import Derived.Test.YtcnkcbipkchoiagRows
import Derived.WalkKit
import Derived.ProofKit
import Derived.OpenShut
import Derived.ShutString
import Derived.ChangeOld
import Derived.Below
import Derived.WalkLawsBesides
import Derived.WalkSpells
import Derived.BigQuiet
import Derived.Deep.QuietTactic
import Derived.Laws.CopyOwn
import Derived.Laws.AppendOwnNone
import Derived.Laws.BitsAllLaws
namespace Go.Proofs.Ytcnkcbipkchoiag
open Go.ChangeShapes Go.WideShapes Go.ChangeAt Go.RowKit
/-- What a reader is told of a slice of integers: where it has elements, it leads to a row of cells that hold them. -/
def Rd (k : IntKind) (w : World) (a : Option Addr) (zs : List Int) : Prop :=
  zs ≠ [] → ∃ b off, a = some ⟨b, off, none⟩ ∧ ∀ j, j < zs.length → w.cell? ⟨b, off + j, none⟩ = some (.int k (zs.getD j 0))
theorem Rd.at {k : IntKind} {w : World} {a : Option Addr} {zs : List Int} (h : Rd k w a zs) {i : Nat} (hi : i < zs.length) :
    ∃ b off, a = some ⟨b, off, none⟩ ∧ ∀ j, j < zs.length → w.cell? ⟨b, off + j, none⟩ = some (.int k (zs.getD j 0)) :=
  h (by intro e; subst e; simp at hi)
theorem Rd.below {k : IntKind} {w w' : World} {a : Option Addr} {zs : List Int} (h : Rd k w a zs) (hb : Below w.heap.size w w') : Rd k w' a zs := by
  intro hne
  obtain ⟨b, off, rfl, hc⟩ := h hne
  exact ⟨b, off, rfl, fun j hj => (hb.cell (World.block_lt_of_cell? w _ (hc j hj))).trans (hc j hj)⟩
theorem Rd.nil (k : IntKind) (w : World) (a : Option Addr) : Rd k w a [] := fun h => absurd rfl h
/-- A row that a call owns can be read. -/
theorem Rd.own {k : IntKind} {w : World} {base : Nat} {e : TypeId} {a : Option Addr} {n c : Nat} {zs : List Int} (h : w.ownsRow base e 1 (.slice a n c) zs.length (zs.map (Value.int k))) : Rd k w a zs := by
  intro hne
  rcases h.2 with ⟨_, h0⟩ | ⟨g, cap, cur, h', _⟩
  · exact absurd (List.eq_nil_of_length_eq_zero h0) hne
  · simp only [Value.slice.injEq] at h'
    obtain ⟨rfl, rfl, rfl⟩ := h'
    refine ⟨g, 0, rfl, fun j hj => ?_⟩
    rw [Nat.zero_add, h.cellAt j (by omega)]
    simp [List.getD, hj]
theorem rd_block {k : IntKind} {w : World} {b : Nat} {e : TypeId} {m : Nat × Nat} {zs : List Int} (h : w.heap[b]? = some (.cells (zs.map (Value.int k)).toArray e m)) : Rd k w (some ⟨b, 0, none⟩) zs := by
  intro _
  refine ⟨b, 0, rfl, fun j hj => ?_⟩
  rw [Nat.zero_add, cell_of_row w b j _ e m h]
  simp [List.getD, hj]
/-- One call behind another: nothing that was there at the first has turned. -/
theorem bthen {w w1 w2 : World} (h1 : Below w.heap.size w w1) (h2 : Below w1.heap.size w1 w2) : Below w.heap.size w w2 := h1.trans (h2.mono h1.size)
theorem Rd.take {k : IntKind} {w : World} {b o : Nat} {zs : List Int} (h : ∀ j, j < zs.length → w.cell? ⟨b, o + j, none⟩ = some (.int k (zs.getD j 0))) (n : Nat) : Rd k w (some ⟨b, o, none⟩) (zs.take n) := by
  intro _
  refine ⟨b, o, rfl, fun j hj => ?_⟩
  have hj' : j < zs.length ∧ j < n := by rw [List.length_take] at hj; omega
  rw [h j hj'.1]
  simp [List.getD, hj'.2]
theorem Rd.drop {k : IntKind} {w : World} {b o : Nat} {zs : List Int} (h : ∀ j, j < zs.length → w.cell? ⟨b, o + j, none⟩ = some (.int k (zs.getD j 0))) (n : Nat) : Rd k w (some ⟨b, o + n, none⟩) (zs.drop n) := by
  intro _
  refine ⟨b, o + n, rfl, fun j hj => ?_⟩
  have hj' : n + j < zs.length := by rw [List.length_drop] at hj; omega
  have := h (n + j) hj'
  rw [← Nat.add_assoc] at this
  rw [this]
  simp [List.getD]
theorem hid {p : Prop} (h : p) : Hid p := h
end Go.Proofs.Ytcnkcbipkchoiag
namespace Go.Proofs.Ytcnkcbipkchoiag
structure LnM where
  who : Int
  bytes : Nat
  used : Nat
  turn : Nat
  shut : Bool
structure PrM where
  quota : Nat
  st : Nat
  cell : Nat
structure CoM where
  unit : Nat
  per : Int → Option PrM
  loans : List LnM
structure CoR where
  m : CoM
  err : Int
def LnM.zero : LnM := ⟨0, 0, 0, 0, false⟩
def LnM.lc (who : Int) (l : LnM) : Nat := if l.who = who ∧ l.shut = false then l.bytes - l.used else 0
def LnM.uc (who : Int) (l : LnM) : Nat := if l.who = who then l.used else 0
def lentL (who : Int) : List LnM → Nat
  | [] => 0
  | l :: t => l.lc who + lentL who t
def usedL (who : Int) : List LnM → Nat
  | [] => 0
  | l :: t => l.uc who + usedL who t
theorem lentL_app (who : Int) (a b : List LnM) : lentL who (a ++ b) = lentL who a + lentL who b := by
  induction a with
  | nil => simp [lentL]
  | cons x a ih => simp [lentL, ih]; omega
theorem usedL_app (who : Int) (a b : List LnM) : usedL who (a ++ b) = usedL who a + usedL who b := by
  induction a with
  | nil => simp [usedL]
  | cons x a ih => simp [usedL, ih]; omega
theorem lentL_set (who : Int) (x : LnM) : ∀ (ls : List LnM) (i : Nat), i < ls.length → lentL who (ls.set i x) + (ls.getD i .zero).lc who = lentL who ls + x.lc who
  | [], i, h => by simp at h
  | y :: t, 0, _ => by simp [lentL]; omega
  | y :: t, i + 1, h => by
    have := lentL_set who x t i (by simpa using h)
    simp only [List.set_cons_succ, lentL, List.getD_cons_succ]
    omega
theorem usedL_set (who : Int) (x : LnM) : ∀ (ls : List LnM) (i : Nat), i < ls.length → usedL who (ls.set i x) + (ls.getD i .zero).uc who = usedL who ls + x.uc who
  | [], i, h => by simp at h
  | y :: t, 0, _ => by simp [usedL]; omega
  | y :: t, i + 1, h => by
    have := usedL_set who x t i (by simpa using h)
    simp only [List.set_cons_succ, usedL, List.getD_cons_succ]
    omega
theorem lentL_none {who : Int} : ∀ {ls : List LnM}, (∀ l ∈ ls, l.who ≠ who) → lentL who ls = 0 ∧ usedL who ls = 0
  | [], _ => ⟨rfl, rfl⟩
  | y :: t, h => by
    have ih := lentL_none (who := who) (ls := t) (fun l hl => h l (List.mem_cons_of_mem _ hl))
    have hy := h y List.mem_cons_self
    simp [lentL, usedL, LnM.lc, LnM.uc, hy, ih.1, ih.2]
theorem lc_le (who : Int) : ∀ (ls : List LnM) (i : Nat), i < ls.length → (ls.getD i .zero).lc who ≤ lentL who ls
  | [], i, h => by simp at h
  | y :: t, 0, _ => by simp [lentL]
  | y :: t, i + 1, h => by
    have := lc_le who t i (by simpa using h)
    simp only [lentL, List.getD_cons_succ]
    omega
def shutL (who : Int) (ls : List LnM) : List LnM := ls.map fun l => if l.who = who then { l with shut := true } else l
theorem shutL_len (who : Int) (ls : List LnM) : (shutL who ls).length = ls.length := by simp [shutL]
theorem shutL_used (k who : Int) (ls : List LnM) : usedL k (shutL who ls) = usedL k ls := by
  induction ls with
  | nil => rfl
  | cons y t ih =>
    show LnM.uc k _ + usedL k (shutL who t) = LnM.uc k y + usedL k t
    rw [ih]
    congr 1
    unfold LnM.uc
    by_cases hy : y.who = who <;> simp [hy]
theorem shutL_lent (k who : Int) (ls : List LnM) : lentL k (shutL who ls) = if k = who then 0 else lentL k ls := by
  induction ls with
  | nil => simp [shutL, lentL]
  | cons y t ih =>
    show LnM.lc k _ + lentL k (shutL who t) = if k = who then 0 else LnM.lc k y + lentL k t
    rw [ih]
    unfold LnM.lc
    by_cases hk : k = who
    · subst hk
      by_cases hy : y.who = k
      · simp [hy]
      · simp [hy]
    · by_cases hy : y.who = who
      · have : ¬ y.who = k := fun e => hk (by rw [← e, hy])
        simp [hk, hy]
        intro e
        exact absurd e.symm hk
      · simp [hk, hy]
theorem shutL_at {who : Int} {ls : List LnM} {i : Nat} (h : i < ls.length) : (shutL who ls).getD i .zero = if (ls.getD i .zero).who = who then { ls.getD i .zero with shut := true } else ls.getD i .zero := by
  simp [shutL, List.getD, h]
def CoM.put (m : CoM) (who : Int) (p : PrM) : CoM := { m with per := fun k => if k = who then some p else m.per k }
def okCell (x : Int) : Bool := decide (1 ≤ x) && decide (x ≤ 100)
def CoM.lent (m : CoM) (who : Int) : Nat := lentL who m.loans
def CoM.chgd (m : CoM) (who : Int) : Nat := usedL who m.loans
def CoM.left (m : CoM) (who : Int) (p : PrM) : Nat := p.quota - m.lent who - m.chgd who
def CoM.new (u : Nat) : CoM := ⟨u, fun _ => none, []⟩
def CoM.joinErr (m : CoM) (who q : Int) : Int := if 1 ≤ who ∧ who ≤ 16 ∧ 0 ≤ q ∧ q ≤ 1000000000 then (match m.per who with | none => 0 | some _ => 10) else 1
def CoM.join (m : CoM) (who q : Int) : CoR := if m.joinErr who q = 0 then ⟨m.put who ⟨q.toNat, 0, 0⟩, 0⟩ else ⟨m, m.joinErr who q⟩
def CoM.askErr (m : CoM) (who : Int) (t : PrM → Bool) (cs : List Int) : Int := match m.per who with
  | none => 12
  | some p => if cs.all okCell = true then (if t p = true then 0 else 9) else 1
def CoM.move (m : CoM) (who : Int) (t : PrM → Bool) (cs : List Int) (f : PrM → PrM) : CoR := match m.per who with
  | none => ⟨m, 12⟩
  | some p => if cs.all okCell = true then (if t p = true then ⟨m.put who (f p), 0⟩ else ⟨m, 9⟩) else ⟨m, 1⟩
def tIs (s : Nat) (p : PrM) : Bool := p.st == s
def tNot (s : Nat) (p : PrM) : Bool := p.st != s
def tAt (c : Int) (p : PrM) : Bool := p.st == 1 && (p.cell : Int) == c
def CoM.attach (m : CoM) (who c : Int) : CoR := m.move who (tIs 0) [c] fun p => ⟨p.quota, 1, c.toNat⟩
def CoM.sleep (m : CoM) (who : Int) : CoR := m.move who (tIs 1) [] fun p => ⟨p.quota, 2, p.cell⟩
def CoM.wake (m : CoM) (who c : Int) : CoR := m.move who (tIs 2) [c] fun p => ⟨p.quota, 1, c.toNat⟩
def CoM.hand (m : CoM) (who a b : Int) : CoR := m.move who (tAt a) [a, b] fun p => ⟨p.quota, p.st, b.toNat⟩
def CoM.leave (m : CoM) (who : Int) : CoR := match m.per who with
  | none => ⟨m, 12⟩
  | some p => if tNot 0 p = true then ⟨{ m.put who ⟨p.quota, 0, 0⟩ with loans := shutL who m.loans }, 0⟩ else ⟨m, 9⟩
def areaL (c : Nat) : List Int := ((List.range 100).filter fun n => (n + 8) / 8 == (c + 7) / 8).map fun n => ((n + 1 : Nat) : Int)
def CoM.pageErr (m : CoM) (who : Int) : Int := m.askErr who (tNot 0) []
def CoM.page (m : CoM) (who : Int) : List Int := match m.per who with
  | none => []
  | some p => if p.st = 0 then [] else if p.st = 1 then [(p.cell : Int)] else areaL p.cell
def CoM.lendErr (m : CoM) (who : Int) : Int := match m.per who with
  | none => 12
  | some p => if p.st = 1 then (if m.left who p = 0 then 11 else 0) else 9
def CoM.lendN (m : CoM) (who : Int) : Nat := match m.per who with
  | none => 0
  | some p => min m.unit (m.left who p)
def CoM.lend (m : CoM) (who : Int) : CoM := { m with loans := m.loans ++ [⟨who, m.lendN who, 0, 0, false⟩] }
def CoM.at (m : CoM) (g : Int) : LnM := m.loans.getD (g.toNat - 1) .zero
def CoM.repErr (m : CoM) (g t b : Int) : Int := if 1 ≤ g ∧ g ≤ (m.loans.length : Int) then
    (if 1 ≤ t ∧ t ≤ ((m.at g).turn : Int) then 10 else if t = ((m.at g).turn : Int) + 1 then
      (if (m.at g).shut = true then 9 else if 0 ≤ b ∧ b ≤ (((m.at g).bytes - (m.at g).used : Nat) : Int) then 0 else 11) else 3) else 6
def CoM.rep (m : CoM) (g b : Int) (fin : Bool) : CoM := { m with loans := m.loans.set (g.toNat - 1) ⟨(m.at g).who, (m.at g).bytes, (m.at g).used + b.toNat, (m.at g).turn + 1, fin⟩ }
def CoM.report (m : CoM) (g t b : Int) (fin : Bool) : CoR := if m.repErr g t b = 0 then ⟨m.rep g b fin, 0⟩ else ⟨m, m.repErr g t b⟩
def CoM.recErr (m : CoM) (who : Int) : Int := match m.per who with
  | none => 12
  | some _ => 0
def CoM.rec3 (m : CoM) (who : Int) : Nat × Nat × Nat := match m.per who with
  | none => (0, 0, 0)
  | some p => (m.left who p, m.lent who, m.chgd who)
/-- What always holds; n: how many calls there were, at the most. -/
structure CoM.Ok (m : CoM) (n : Nat) : Prop where
  u1 : 1 ≤ m.unit ∧ m.unit ≤ 1000000
  pr : ∀ who p, m.per who = some p → 1 ≤ who ∧ who ≤ 16 ∧ p.quota ≤ 1000000000 ∧ p.st ≤ 2 ∧ p.cell ≤ 100 ∧ (p.st ≠ 0 → 1 ≤ p.cell) ∧ m.lent who + m.chgd who ≤ p.quota
  ln : ∀ l ∈ m.loans, (∃ p, m.per l.who = some p) ∧ l.used ≤ l.bytes ∧ l.bytes ≤ 1000000 ∧ l.turn ≤ n
  len : m.loans.length ≤ n
theorem CoM.Ok.mono {m : CoM} {n n' : Nat} (h : m.Ok n) (hn : n ≤ n') : m.Ok n' := ⟨h.u1, h.pr, fun l hl => by
  obtain ⟨h1, h2, h3, h4⟩ := h.ln l hl
  exact ⟨h1, h2, h3, by omega⟩, by have := h.len; omega⟩
theorem CoM.Ok.new {u : Nat} (h : 1 ≤ u ∧ u ≤ 1000000) : (CoM.new u).Ok 0 := by
  refine ⟨h, fun who p hp => ?_, fun l hl => ?_, Nat.le_refl _⟩
  · cases hp
  · cases hl
theorem CoM.put_at (m : CoM) (who k : Int) (p : PrM) : (m.put who p).per k = if k = who then some p else m.per k := rfl
theorem CoM.put_lent (m : CoM) (who k : Int) (p : PrM) : (m.put who p).lent k = m.lent k ∧ (m.put who p).chgd k = m.chgd k := ⟨rfl, rfl⟩
theorem CoM.Ok.put {m : CoM} {n : Nat} {who : Int} {p : PrM} (h : m.Ok n) (hw : 1 ≤ who ∧ who ≤ 16) (hq : p.quota ≤ 1000000000 ∧ p.st ≤ 2 ∧ p.cell ≤ 100 ∧ (p.st ≠ 0 → 1 ≤ p.cell) ∧ m.lent who + m.chgd who ≤ p.quota) : (m.put who p).Ok n := by
  refine ⟨h.u1, fun k q hk => ?_, fun l hl => ?_, h.len⟩
  · rw [CoM.put_at] at hk
    split at hk
    · rename_i e
      subst e
      injection hk with hk
      subst hk
      exact ⟨hw.1, hw.2, hq⟩
    · exact h.pr k q hk
  · obtain ⟨⟨q, h1⟩, h2⟩ := h.ln l hl
    refine ⟨?_, h2⟩
    rw [CoM.put_at]
    split
    · exact ⟨_, rfl⟩
    · exact ⟨q, h1⟩
theorem CoM.Ok.fresh {m : CoM} {n : Nat} {who : Int} (h : m.Ok n) (hw : m.per who = none) : m.lent who = 0 ∧ m.chgd who = 0 := lentL_none fun l hl e => by
  obtain ⟨⟨q, h1⟩, _⟩ := h.ln l hl
  rw [e, hw] at h1
  cases h1
theorem CoM.Ok.join {m : CoM} {n : Nat} (who q : Int) (h : m.Ok n) : (m.join who q).m.Ok n := by
  unfold CoM.join
  split
  · rename_i he
    unfold CoM.joinErr at he
    split at he
    · rename_i hc
      cases hp : m.per who with
      | none =>
        have := h.fresh hp
        refine h.put ⟨hc.1, hc.2.1⟩ ⟨?_, by simp, by simp, by simp, by omega⟩
        show q.toNat ≤ _
        omega
      | some p => simp [hp] at he
    · simp at he
  · exact h
theorem CoM.Ok.move {m : CoM} {n : Nat} (who : Int) (t : PrM → Bool) (cs : List Int) (f : PrM → PrM) (h : m.Ok n) (hf : ∀ p, p.st ≤ 2 → p.cell ≤ 100 → (p.st ≠ 0 → 1 ≤ p.cell) → cs.all okCell = true → t p = true → (f p).quota = p.quota ∧ (f p).st ≤ 2 ∧ (f p).cell ≤ 100 ∧ ((f p).st ≠ 0 → 1 ≤ (f p).cell)) : (m.move who t cs f).m.Ok n := by
  unfold CoM.move
  split
  · exact h
  · rename_i p hp
    split
    · rename_i hc
      split
      · rename_i ht
        obtain ⟨h1, h2, h3, h4, h5, h6, h7⟩ := h.pr _ _ hp
        obtain ⟨f1, f2, f3, f4⟩ := hf p h4 h5 h6 hc ht
        exact h.put ⟨h1, h2⟩ ⟨by omega, f2, f3, f4, by omega⟩
      · exact h
    · exact h
theorem okCell_iff {x : Int} : okCell x = true ↔ 1 ≤ x ∧ x ≤ 100 := by simp [okCell]
theorem CoM.Ok.attach {m : CoM} {n : Nat} (who c : Int) (h : m.Ok n) : (m.attach who c).m.Ok n := h.move _ _ _ _ fun p h1 h2 h3 hc _ => by
  have := okCell_iff.1 (show okCell c = true by simpa using hc)
  refine ⟨rfl, by simp, ?_, fun _ => ?_⟩
  · show c.toNat ≤ 100
    omega
  · show 1 ≤ c.toNat
    omega
theorem CoM.Ok.wake {m : CoM} {n : Nat} (who c : Int) (h : m.Ok n) : (m.wake who c).m.Ok n := h.move _ _ _ _ fun p h1 h2 h3 hc _ => by
  have := okCell_iff.1 (show okCell c = true by simpa using hc)
  refine ⟨rfl, by simp, ?_, fun _ => ?_⟩
  · show c.toNat ≤ 100
    omega
  · show 1 ≤ c.toNat
    omega
theorem CoM.Ok.hand {m : CoM} {n : Nat} (who a b : Int) (h : m.Ok n) : (m.hand who a b).m.Ok n := h.move _ _ _ _ fun p h1 h2 h3 hc _ => by
  have hc' : okCell a = true ∧ okCell b = true := by simpa using hc
  have := okCell_iff.1 hc'.2
  refine ⟨rfl, h1, ?_, fun _ => ?_⟩
  · show b.toNat ≤ 100
    omega
  · show 1 ≤ b.toNat
    omega
theorem CoM.Ok.sleep {m : CoM} {n : Nat} (who : Int) (h : m.Ok n) : (m.sleep who).m.Ok n := h.move _ _ _ _ fun p h1 h2 h3 _ ht => ⟨rfl, by simp, h2, fun _ => h3 (by
  have : p.st = 1 := by simpa [tIs] using ht
  omega)⟩
theorem CoM.Ok.leave {m : CoM} {n : Nat} (who : Int) (h : m.Ok n) : (m.leave who).m.Ok n := by
  unfold CoM.leave
  split
  · exact h
  · rename_i p hp
    split
    · obtain ⟨h1, h2, h3, h4, h5, h6, h7⟩ := h.pr _ _ hp
      have hb : (m.put who ⟨p.quota, 0, 0⟩).Ok n := h.put ⟨h1, h2⟩ ⟨h3, by simp, by simp, by simp, h7⟩
      refine ⟨hb.u1, fun k q hk => ?_, fun l hl => ?_, by rw [shutL_len]; exact h.len⟩
      · obtain ⟨g1, g2, g3, g4, g5, g6, g7⟩ := hb.pr k q hk
        refine ⟨g1, g2, g3, g4, g5, g6, ?_⟩
        show lentL k (shutL who m.loans) + usedL k (shutL who m.loans) ≤ q.quota
        have g7' : lentL k m.loans + usedL k m.loans ≤ q.quota := g7
        rw [shutL_used, shutL_lent]
        split <;> omega
      · unfold shutL at hl
        obtain ⟨y, hy, rfl⟩ := List.mem_map.1 hl
        have := hb.ln y hy
        split
        · exact this
        · exact this
    · exact h
theorem CoM.Ok.lend {m : CoM} {n : Nat} {who : Int} (h : m.Ok n) (he : m.lendErr who = 0) : (m.lend who).Ok (n + 1) := by
  unfold CoM.lendErr at he
  cases hp : m.per who with
  | none => simp [hp] at he
  | some p =>
    have hn : m.lendN who = min m.unit (m.left who p) := by simp [CoM.lendN, hp]
    refine ⟨h.u1, fun k q hk => ?_, fun l hl => ?_, ?_⟩
    · obtain ⟨g1, g2, g3, g4, g5, g6, g7⟩ := h.pr k q hk
      refine ⟨g1, g2, g3, g4, g5, g6, ?_⟩
      have g7' : lentL k m.loans + usedL k m.loans ≤ q.quota := g7
      show lentL k (m.loans ++ [_]) + usedL k (m.loans ++ [_]) ≤ q.quota
      rw [lentL_app, usedL_app]
      simp only [lentL, usedL, LnM.lc, LnM.uc]
      by_cases e : who = k
      · subst e
        have hk' : m.per who = some q := hk
        rw [hp] at hk'
        injection hk' with hk'
        subst hk'
        have : m.left who p = p.quota - lentL who m.loans - usedL who m.loans := rfl
        simp
        omega
      · simp [e]
        omega
    · have hl : l ∈ m.loans ++ [_] := hl
      rw [List.mem_append, List.mem_singleton] at hl
      rcases hl with hl | rfl
      · obtain ⟨h1, h2, h3, h4⟩ := h.ln l hl
        exact ⟨h1, h2, h3, by omega⟩
      · have := h.u1
        exact ⟨⟨p, hp⟩, Nat.zero_le _, by show m.lendN who ≤ _; omega, Nat.zero_le _⟩
    · show (m.loans ++ [_]).length ≤ n + 1
      have := h.len
      simp
      omega
theorem CoM.at_mem {m : CoM} {g : Int} (h : 1 ≤ g ∧ g ≤ (m.loans.length : Int)) : m.at g ∈ m.loans := by
  unfold CoM.at
  have : g.toNat - 1 < m.loans.length := by omega
  rw [List.getD_eq_getElem?_getD, List.getElem?_eq_getElem this]
  exact List.getElem_mem this
structure RepC (m : CoM) (g t b : Int) : Prop where
  g1 : 1 ≤ g
  g2 : g ≤ (m.loans.length : Int)
  t1 : t = ((m.at g).turn : Int) + 1
  op : (m.at g).shut = false
  b0 : 0 ≤ b
  b1 : b ≤ (((m.at g).bytes - (m.at g).used : Nat) : Int)
theorem CoM.rep_ok {m : CoM} {g t b : Int} (h : m.repErr g t b = 0) : RepC m g t b := by
  unfold CoM.repErr at h
  split at h
  · rename_i h1
    split at h
    · simp at h
    · split at h
      · rename_i h2
        split at h
        · simp at h
        · rename_i h3
          split at h
          · rename_i h4
            exact ⟨h1.1, h1.2, h2, by simpa using h3, h4.1, h4.2⟩
          · simp at h
      · simp at h
  · simp at h
theorem CoM.Ok.rep {m : CoM} {n : Nat} {g t b : Int} {fin : Bool} (h : m.Ok n) (he : m.repErr g t b = 0) : (m.rep g b fin).Ok (n + 1) := by
  obtain ⟨g1, g2, -, hsh, hb0, hb1⟩ := CoM.rep_ok he
  have hi : g.toNat - 1 < m.loans.length := by omega
  obtain ⟨ha1, ha2, ha3, ha4⟩ := h.ln _ (CoM.at_mem ⟨g1, g2⟩)
  refine ⟨h.u1, fun k q hk => ?_, fun l hl => ?_, ?_⟩
  · obtain ⟨f1, f2, f3, f4, f5, f6, f7⟩ := h.pr k q hk
    refine ⟨f1, f2, f3, f4, f5, f6, ?_⟩
    have f7' : lentL k m.loans + usedL k m.loans ≤ q.quota := f7
    show lentL k (m.loans.set _ _) + usedL k (m.loans.set _ _) ≤ q.quota
    have e1 := lentL_set k ⟨(m.at g).who, (m.at g).bytes, (m.at g).used + b.toNat, (m.at g).turn + 1, fin⟩ m.loans _ hi
    have e2 := usedL_set k ⟨(m.at g).who, (m.at g).bytes, (m.at g).used + b.toNat, (m.at g).turn + 1, fin⟩ m.loans _ hi
    have ea : m.loans.getD (g.toNat - 1) .zero = m.at g := rfl
    rw [ea] at e1 e2
    generalize m.at g = y at *
    obtain ⟨yw, yb, yu, yt, ys⟩ := y
    simp only [LnM.lc, LnM.uc] at *
    subst hsh
    by_cases e : yw = k
    · subst e
      cases fin <;> simp at e1 e2 <;> omega
    · simp [e] at e1 e2
      omega
  · have hl : l ∈ m.loans.set _ _ := hl
    rcases List.mem_or_eq_of_mem_set hl with hl | rfl
    · obtain ⟨h1, h2, h3, h4⟩ := h.ln l hl
      exact ⟨h1, h2, h3, by omega⟩
    · exact ⟨ha1, by show (m.at g).used + b.toNat ≤ (m.at g).bytes; omega, ha3, by show (m.at g).turn + 1 ≤ n + 1; omega⟩
  · show (m.loans.set _ _).length ≤ n + 1
    have := h.len
    simp
    omega
theorem CoM.Ok.report {m : CoM} {n : Nat} (g t b : Int) (fin : Bool) (h : m.Ok n) : (m.report g t b fin).m.Ok (n + 1) := by
  unfold CoM.report
  split
  · rename_i he
    exact h.rep he
  · exact h.mono (by omega)
end Go.Proofs.Ytcnkcbipkchoiag
