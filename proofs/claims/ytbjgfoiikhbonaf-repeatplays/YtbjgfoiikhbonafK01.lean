import Derived.Test.YtbjgfoiikhbonafRows
import Derived.WalkKit
import Derived.ProofKit
import Derived.OpenShut
import Derived.ShutString
import Derived.ChangeOld
import Derived.Below
import Derived.WalkLawsBesides
import Derived.WalkSpells
import Derived.BigQuiet
import Derived.Deep.QuietTactic
import Derived.Laws.CopyOwn
import Derived.Laws.AppendOwnNone
import Derived.Laws.BitsAllLaws
set_option linter.unusedVariables false
set_option linter.unusedSimpArgs false
namespace Go.Proofs.Ytbjgfoiikhbonaf
open Go.ChangeShapes Go.WideShapes Go.ChangeAt Go.RowKit
/-- What a reader is told of a slice of integers: where it has elements, it leads to a row of cells that hold them. -/
def Rd (k : IntKind) (w : World) (a : Option Addr) (zs : List Int) : Prop :=
  zs ≠ [] → ∃ b off, a = some ⟨b, off, none⟩ ∧ ∀ j, j < zs.length → w.cell? ⟨b, off + j, none⟩ = some (.int k (zs.getD j 0))
theorem Rd.at {k : IntKind} {w : World} {a : Option Addr} {zs : List Int} (h : Rd k w a zs) {i : Nat} (hi : i < zs.length) :
    ∃ b off, a = some ⟨b, off, none⟩ ∧ ∀ j, j < zs.length → w.cell? ⟨b, off + j, none⟩ = some (.int k (zs.getD j 0)) :=
  h (by intro e; subst e; simp at hi)
theorem Rd.below {k : IntKind} {w w' : World} {a : Option Addr} {zs : List Int} (h : Rd k w a zs) (hb : Below w.heap.size w w') : Rd k w' a zs := by
  intro hne
  obtain ⟨b, off, rfl, hc⟩ := h hne
  exact ⟨b, off, rfl, fun j hj => (hb.cell (World.block_lt_of_cell? w _ (hc j hj))).trans (hc j hj)⟩
theorem Rd.nil (k : IntKind) (w : World) (a : Option Addr) : Rd k w a [] := fun h => absurd rfl h
/-- A row that a call owns can be read. -/
theorem Rd.own {k : IntKind} {w : World} {base : Nat} {e : TypeId} {a : Option Addr} {n c : Nat} {zs : List Int} (h : w.ownsRow base e 1 (.slice a n c) zs.length (zs.map (Value.int k))) : Rd k w a zs := by
  intro hne
  rcases h.2 with ⟨_, h0⟩ | ⟨g, cap, cur, h', _⟩
  · exact absurd (List.eq_nil_of_length_eq_zero h0) hne
  · simp only [Value.slice.injEq] at h'
    obtain ⟨rfl, rfl, rfl⟩ := h'
    refine ⟨g, 0, rfl, fun j hj => ?_⟩
    rw [Nat.zero_add, h.cellAt j (by omega)]
    simp [List.getD, hj]
/-- One call behind another: nothing that was there at the first has turned. -/
theorem bthen {w w1 w2 : World} (h1 : Below w.heap.size w w1) (h2 : Below w1.heap.size w1 w2) : Below w.heap.size w w2 := h1.trans (h2.mono h1.size)
theorem Rd.take {k : IntKind} {w : World} {b o : Nat} {zs : List Int} (h : ∀ j, j < zs.length → w.cell? ⟨b, o + j, none⟩ = some (.int k (zs.getD j 0))) (n : Nat) : Rd k w (some ⟨b, o, none⟩) (zs.take n) := by
  intro _
  refine ⟨b, o, rfl, fun j hj => ?_⟩
  have hj' : j < zs.length ∧ j < n := by rw [List.length_take] at hj; omega
  rw [h j hj'.1]
  simp [List.getD, hj'.2]
theorem Rd.drop {k : IntKind} {w : World} {b o : Nat} {zs : List Int} (h : ∀ j, j < zs.length → w.cell? ⟨b, o + j, none⟩ = some (.int k (zs.getD j 0))) (n : Nat) : Rd k w (some ⟨b, o + n, none⟩) (zs.drop n) := by
  intro _
  refine ⟨b, o + n, rfl, fun j hj => ?_⟩
  have hj' : n + j < zs.length := by rw [List.length_drop] at hj; omega
  have := h (n + j) hj'
  rw [← Nat.add_assoc] at this
  rw [this]
  simp [List.getD]
theorem hid {p : Prop} (h : p) : Hid p := h
end Go.Proofs.Ytbjgfoiikhbonaf
namespace Go.Proofs.Ytbjgfoiikhbonaf
/-- The first place from lo on of n which holds; lo + n, if there is none. -/
def firstN (p : Nat → Bool) (lo : Nat) : Nat → Nat
  | 0 => lo
  | n + 1 => if p lo = true then lo else firstN p (lo + 1) n
def firstIn (p : Nat → Bool) (lo hi : Nat) : Nat := firstN p lo (hi - lo)
theorem firstN_ge (p : Nat → Bool) (n : Nat) : ∀ lo, lo ≤ firstN p lo n := by
  induction n with
  | zero => intro lo; exact Nat.le_refl _
  | succ n ih =>
    intro lo
    unfold firstN
    split
    · exact Nat.le_refl _
    · have := ih (lo + 1); omega
theorem firstN_le (p : Nat → Bool) (n : Nat) : ∀ lo, firstN p lo n ≤ lo + n := by
  induction n with
  | zero => intro lo; exact Nat.le_refl _
  | succ n ih =>
    intro lo
    unfold firstN
    split
    · omega
    · have := ih (lo + 1); omega
theorem firstN_not (p : Nat → Bool) (n : Nat) : ∀ lo k, lo ≤ k → k < firstN p lo n → p k = false := by
  induction n with
  | zero => intro lo k h1 h2; unfold firstN at h2; omega
  | succ n ih =>
    intro lo k h1 h2
    unfold firstN at h2
    split at h2
    · omega
    · rename_i hp
      by_cases e : k = lo
      · subst e; simpa using hp
      · exact ih (lo + 1) k (by omega) h2
theorem firstN_at (p : Nat → Bool) (n : Nat) : ∀ lo, firstN p lo n < lo + n → p (firstN p lo n) = true := by
  induction n with
  | zero => intro lo h; unfold firstN at h; omega
  | succ n ih =>
    intro lo h
    unfold firstN at h ⊢
    split
    · assumption
    · rename_i hp
      rw [if_neg hp] at h
      exact ih (lo + 1) (by omega)
theorem firstIn_ge (p : Nat → Bool) (lo hi : Nat) : lo ≤ firstIn p lo hi := firstN_ge p _ lo
theorem firstIn_le (p : Nat → Bool) {lo hi : Nat} (h : lo ≤ hi) : firstIn p lo hi ≤ hi := by
  have := firstN_le p (hi - lo) lo
  unfold firstIn; omega
theorem firstIn_not {p : Nat → Bool} {lo hi k : Nat} (h1 : lo ≤ k) (h2 : k < firstIn p lo hi) : p k = false := firstN_not p _ lo k h1 h2
theorem firstIn_at {p : Nat → Bool} {lo hi : Nat} (h : firstIn p lo hi < hi) : p (firstIn p lo hi) = true := by
  have hl := firstIn_ge p lo hi
  exact firstN_at p _ lo (by unfold firstIn at h hl; omega)
theorem firstIn_eq {p : Nat → Bool} {lo hi k : Nat} (h1 : lo ≤ k) (h2 : k ≤ hi) (hb : ∀ j, lo ≤ j → j < k → p j = false) (ha : k < hi → p k = true) : firstIn p lo hi = k := by
  have hl := firstIn_ge p lo hi
  have hh := firstIn_le p (Nat.le_trans h1 h2)
  rcases Nat.lt_trichotomy (firstIn p lo hi) k with h | h | h
  · have h3 := firstIn_at (p := p) (lo := lo) (hi := hi) (by omega)
    rw [hb _ hl h] at h3
    cases h3
  · exact h
  · have h3 := firstIn_not h1 h
    rw [ha (by omega)] at h3
    cases h3
theorem firstIn_lt {p : Nat → Bool} {lo hi k : Nat} (h1 : lo ≤ k) (hp : p k = true) : firstIn p lo hi ≤ k := by
  rcases Nat.lt_or_ge k (firstIn p lo hi) with h | h
  · rw [firstIn_not h1 h] at hp; cases hp
  · exact h
theorem firstIn_none {p : Nat → Bool} {lo hi : Nat} (h : lo ≤ hi) (hn : ∀ k, lo ≤ k → k < hi → p k = false) : firstIn p lo hi = hi :=
  firstIn_eq h (Nat.le_refl _) hn (fun h => absurd h (Nat.lt_irrefl _))
structure PieceM where
  num : Int
  frm : Int
  last : Bool
  data : ByteArray
def PieceM.zero : PieceM := ⟨0, 0, false, ByteArray.empty⟩
structure GapM where
  num : Int
  frm : Int
  til : Int
structure ReportM where
  next : Int
  miss : List GapM
/-- Units; of each byte 0 not sent, 1 sent, 2 to be sent again. -/
structure OutM where
  win : Nat
  text : List ByteArray
  mark : Nat → Nat → Nat
  done : Nat → Bool
  beg : Nat
def OutM.new (win : Nat) : OutM := ⟨win, [], fun _ _ => 0, fun _ => false, 0⟩
def OutM.n (m : OutM) : Nat := m.text.length
def OutM.t (m : OutM) (u : Nat) : ByteArray := m.text.getD u ByteArray.empty
def OutM.sz (m : OutM) (u : Nat) : Nat := (m.t u).size
def OutM.wait (m : OutM) : Nat := ((List.range m.n).filter fun u => !m.done u).length
structure OutS where
  m : OutM
  err : Int
def OutM.submit (m : OutM) (s : ByteArray) : OutS :=
  if s.size = 0 then ⟨m, 1⟩ else if 1500 < s.size then ⟨m, 2⟩ else if 64 ≤ m.wait then ⟨m, 7⟩ else ⟨{ m with text := m.text ++ [s] }, 0⟩
def OutM.hit (m : OutM) (k u : Nat) : Nat := firstIn (fun i => m.mark u i == k) 0 (m.sz u)
def OutM.can (m : OutM) (k u : Nat) : Bool := decide (m.hit k u < m.sz u) && (k == 2 || !m.done u)
def OutM.edge (m : OutM) (k : Nat) : Nat := if k = 2 then m.n else min m.n (m.beg + m.win)
def OutM.who (m : OutM) (k : Nat) : Nat := firstIn (m.can k) m.beg (m.edge k)
def OutM.cut (m : OutM) (k u size : Nat) : Nat := firstIn (fun i => m.mark u i != k) (m.hit k u) (min (m.sz u) (m.hit k u + size))
def OutM.sent (m : OutM) (u a b : Nat) : OutM := { m with mark := fun v i => if v = u ∧ a ≤ i ∧ i < b then 1 else m.mark v i }
def OutM.piece (m : OutM) (u a b : Nat) : PieceM := ⟨((u % 64 : Nat) : Int), a, decide (b = m.sz u), (m.t u).extract a b⟩
structure OutP where
  m : OutM
  p : PieceM
  err : Int
def OutM.send (m : OutM) (k u size : Nat) : OutP := ⟨m.sent u (m.hit k u) (m.cut k u size), m.piece u (m.hit k u) (m.cut k u size), 0⟩
def OutM.next (m : OutM) (size : Int) : OutP :=
  if size < 1 ∨ 1500 < size then ⟨m, .zero, 1⟩ else if m.who 2 < m.edge 2 then m.send 2 (m.who 2) size.toNat else if m.who 0 < m.edge 0 then m.send 0 (m.who 0) size.toNat else ⟨m, .zero, 6⟩
/-- How far a number is ahead. -/
def aheadN (num : Int) (beg : Nat) : Nat := ((num - ((beg % 64 : Nat) : Int)) % 64).toNat
def OutM.spoken (m : OutM) (d : Nat) : Bool := (List.range d).all fun i => decide (m.beg + i < m.n) && (m.mark (m.beg + i) 0 != 0)
def OutM.gapOk (m : OutM) (d : Nat) (g : GapM) : Bool :=
  decide (0 ≤ g.num ∧ g.num ≤ 63) && (decide (aheadN g.num m.beg < d) && decide (0 ≤ g.frm ∧ g.frm < m.sz (m.beg + aheadN g.num m.beg) ∧ g.til ≤ m.sz (m.beg + aheadN g.num m.beg) ∧ (g.til < 0 ∨ g.frm < g.til)))
def GapM.of (beg : Nat) (u : Nat) (g : GapM) : Bool := beg + aheadN g.num beg == u
def GapM.at (g : GapM) (i : Nat) : Bool := decide (g.frm ≤ i ∧ (g.til < 0 ∨ (i : Int) < g.til))
def hasGap (beg : Nat) (gs : List GapM) (u : Nat) : Bool := gs.any fun g => g.of beg u
def inGap (beg : Nat) (gs : List GapM) (u i : Nat) : Bool := gs.any fun g => g.of beg u && g.at i
def OutM.mark2 (m : OutM) (d : Nat) (gs : List GapM) (u i : Nat) : Nat :=
  if u < m.beg then m.mark u i
  else if u < m.beg + d then
    if hasGap m.beg gs u = true then (if inGap m.beg gs u i = true ∧ m.mark u i = 1 ∧ m.done u = false then 2 else m.mark u i)
    else (if m.mark u i = 2 then 1 else m.mark u i)
  else (if m.mark u i = 1 ∧ m.done u = false then 2 else m.mark u i)
def OutM.done2 (m : OutM) (d : Nat) (gs : List GapM) (u : Nat) : Bool := m.done u || (decide (m.beg ≤ u ∧ u < m.beg + d) && !hasGap m.beg gs u)
def OutM.taken (m : OutM) (d : Nat) (gs : List GapM) : OutM :=
  ⟨m.win, m.text, m.mark2 d gs, m.done2 d gs, firstIn (fun u => !m.done2 d gs u) m.beg m.n⟩
def OutM.take (m : OutM) (r : ReportM) : OutS :=
  if r.next < 0 ∨ 63 < r.next then ⟨m, 3⟩ else if m.spoken (aheadN r.next m.beg) = false then ⟨m, 3⟩ else if r.miss.all (m.gapOk (aheadN r.next m.beg)) = false then ⟨m, 3⟩ else ⟨m.taken (aheadN r.next m.beg) r.miss, 0⟩
/-- Of each unit its bytes that are there, its length where it is known, and the end of what is there; hi: behind the last unit of which something is there. -/
structure InM where
  win : Nat
  fst : Nat
  hi : Nat
  got : Nat → Nat → Option UInt8
  len : Nat → Option Nat
  fin : Nat → Nat
def InM.new (win : Nat) : InM := ⟨win, 0, 0, fun _ _ => none, fun _ => none, fun _ => 0⟩
def PieceM.bad (p : PieceM) : Bool := decide (p.num < 0 ∨ 63 < p.num ∨ p.frm < 0 ∨ 1500 < p.frm ∨ 1500 < p.frm + p.data.size ∨ p.data.size = 0)
def PieceM.a (p : PieceM) : Nat := p.frm.toNat
def PieceM.b (p : PieceM) : Nat := p.frm.toNat + p.data.size
def InM.clash (r : InM) (u : Nat) (p : PieceM) : Bool :=
  (match r.len u with
    | none => false
    | some n => (p.last && n != p.b) || decide (n < p.b)) || (p.last && decide (p.b < r.fin u))
def InM.put (r : InM) (u : Nat) (p : PieceM) : InM :=
  ⟨r.win, r.fst, max r.hi (u + 1), fun v i => if v = u ∧ p.a ≤ i ∧ i < p.b ∧ r.got v i = none then some (p.data.get! (i - p.a)) else r.got v i,
    fun v => if v = u ∧ p.last = true then some p.b else r.len v, fun v => if v = u then max (r.fin u) p.b else r.fin v⟩
def InM.whole (r : InM) (u : Nat) : Bool :=
  match r.len u with
  | none => false
  | some n => firstIn (fun i => (r.got u i).isNone) 0 n == n
def InM.textOf (r : InM) (u : Nat) : ByteArray := ⟨((List.range ((r.len u).getD 0)).map fun i => (r.got u i).getD 0).toArray⟩
def InM.upto (r : InM) : Nat := firstIn (fun u => !r.whole u) r.fst (max r.fst r.hi)
structure InS where
  m : InM
  out : List ByteArray
  err : Int
def InM.tell (r : InM) : InS := ⟨{ r with fst := r.upto }, (List.range (r.upto - r.fst)).map fun i => r.textOf (r.fst + i), 0⟩
def InM.take (r : InM) (p : PieceM) : InS :=
  if p.bad = true then ⟨r, [], 3⟩ else if r.win ≤ aheadN p.num r.fst then ⟨r, [], 8⟩ else if r.clash (r.fst + aheadN p.num r.fst) p = true then ⟨r, [], 3⟩ else (r.put (r.fst + aheadN p.num r.fst) p).tell
/-- The runs of places that hold, of n from lo on. -/
def runsN (p : Nat → Bool) (e : Nat) : Nat → Nat → List (Nat × Nat)
  | 0, _ => []
  | f + 1, i => if firstIn p i e < e then (firstIn p i e, firstIn (fun k => !p k) (firstIn p i e) e) :: runsN p e f (firstIn (fun k => !p k) (firstIn p i e) e) else []
def InM.ends (r : InM) (u : Nat) : Nat := (r.len u).getD (r.fin u)
def InM.gaps (r : InM) (u : Nat) : List GapM :=
  ((runsN (fun i => (r.got u i).isNone) (r.ends u) (r.ends u + 1) 0).map fun q => (⟨((u % 64 : Nat) : Int), q.1, q.2⟩ : GapM)) ++ (match r.len u with
    | none => [⟨((u % 64 : Nat) : Int), r.ends u, -1⟩]
    | some _ => [])
def InM.nxt (r : InM) : Nat := max r.fst r.hi
def InM.report (r : InM) : ReportM := ⟨((r.nxt % 64 : Nat) : Int), (List.range (r.nxt - r.fst)).flatMap fun i => r.gaps (r.fst + i)⟩
end Go.Proofs.Ytbjgfoiikhbonaf
namespace Go.Proofs.Ytbjgfoiikhbonaf
structure TakenM where
  u : Nat
  p : PieceM
def TakenM.zero : TakenM := ⟨0, .zero⟩
def TakenM.has (t : TakenM) (u i : Nat) : Bool := t.u == u && decide (t.p.a ≤ i ∧ i < t.p.b)
def atL (u i : Nat) : List TakenM → Option UInt8
  | [] => none
  | t :: ts => if t.has u i = true then some (t.p.data.get! (i - t.p.a)) else atL u i ts
def lenL (u : Nat) (d : Option Nat) : List TakenM → Option Nat
  | [] => d
  | t :: ts => lenL u (if t.u = u ∧ t.p.last = true then some t.p.b else d) ts
def finL (u : Nat) (d : Nat) : List TakenM → Nat
  | [] => d
  | t :: ts => finL u (if t.u = u then max d t.p.b else d) ts
def hiL (d : Nat) : List TakenM → Nat
  | [] => d
  | t :: ts => hiL (max d (t.u + 1)) ts
theorem takeTn {l : List TakenM} {k : Nat} (h : k < l.length) : l.take (k + 1) = l.take k ++ [l.getD k .zero] := by
  have e : l.getD k .zero = l[k] := by simp [List.getD, h]
  rw [e]
  exact List.take_succ_eq_append_getElem h
theorem lenL_snoc (u : Nat) (t : TakenM) (ts : List TakenM) : ∀ d, lenL u d (ts ++ [t]) = if t.u = u ∧ t.p.last = true then some t.p.b else lenL u d ts := by
  induction ts with
  | nil => intro d; rfl
  | cons s ts ih => intro d; exact ih _
theorem finL_snoc (u : Nat) (t : TakenM) (ts : List TakenM) : ∀ d, finL u d (ts ++ [t]) = if t.u = u then max (finL u d ts) t.p.b else finL u d ts := by
  induction ts with
  | nil => intro d; rfl
  | cons s ts ih => intro d; exact ih _
theorem hiL_snoc (t : TakenM) (ts : List TakenM) : ∀ d, hiL d (ts ++ [t]) = max (hiL d ts) (t.u + 1) := by
  induction ts with
  | nil => intro d; rfl
  | cons s ts ih => intro d; exact ih _
theorem atL_snoc (u i : Nat) (t : TakenM) (ts : List TakenM) : atL u i (ts ++ [t]) = (atL u i ts).or (if t.has u i = true then some (t.p.data.get! (i - t.p.a)) else none) := by
  induction ts with
  | nil => rfl
  | cons s ts ih =>
    rw [List.cons_append, atL, atL]
    by_cases h : s.has u i = true
    · rw [if_pos h, if_pos h]; rfl
    · rw [if_neg h, if_neg h]; exact ih
/-- The first that has it. -/
theorem atL_first {u i k : Nat} {ts : List TakenM} (hk : k < ts.length) (hb : atL u i (ts.take k) = none) (hh : (ts.getD k .zero).has u i = true) : atL u i ts = some ((ts.getD k .zero).p.data.get! (i - (ts.getD k .zero).p.a)) := by
  have hgen : ∀ l m : List TakenM, atL u i l = none → atL u i (l ++ m) = atL u i m := by
    intro l
    induction l with
    | nil => intro m _; rfl
    | cons s l ih =>
      intro m h
      rw [atL] at h
      split at h
      · cases h
      · rename_i hs
        rw [List.cons_append, atL, if_neg hs]
        exact ih m h
  have e : ts = ts.take k ++ (ts.getD k .zero :: ts.drop (k + 1)) := by
    have h1 : ts.getD k .zero = ts[k] := by simp [List.getD, hk]
    rw [h1, ← List.drop_eq_getElem_cons hk, List.take_append_drop]
  generalize ts.getD k .zero = t at *
  rw [e, hgen _ _ hb, atL, if_pos hh]
end Go.Proofs.Ytbjgfoiikhbonaf
