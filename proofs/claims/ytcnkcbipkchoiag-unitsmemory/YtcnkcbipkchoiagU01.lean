import Derived.Test.YtcnkcbipkchoiagRows
import Derived.WalkKit
import Derived.ProofKit
import Derived.OpenShut
import Derived.ShutString
import Derived.ChangeOld
import Derived.Below
import Derived.WalkLawsBesides
import Derived.WalkSpells
import Derived.BigQuiet
import Derived.Deep.QuietTactic
import Derived.Laws.CopyOwn
import Derived.Laws.AppendOwnNone
import Derived.Laws.BitsAllLaws
namespace Go.Proofs.Ytcnkcbipkchoiag
open Go.ChangeShapes Go.WideShapes Go.ChangeAt Go.RowKit
/-- What a reader is told of a slice of integers: where it has elements, it leads to a row of cells that hold them. -/
def Rd (k : IntKind) (w : World) (a : Option Addr) (zs : List Int) : Prop :=
  zs ≠ [] → ∃ b off, a = some ⟨b, off, none⟩ ∧ ∀ j, j < zs.length → w.cell? ⟨b, off + j, none⟩ = some (.int k (zs.getD j 0))
theorem Rd.at {k : IntKind} {w : World} {a : Option Addr} {zs : List Int} (h : Rd k w a zs) {i : Nat} (hi : i < zs.length) :
    ∃ b off, a = some ⟨b, off, none⟩ ∧ ∀ j, j < zs.length → w.cell? ⟨b, off + j, none⟩ = some (.int k (zs.getD j 0)) :=
  h (by intro e; subst e; simp at hi)
theorem Rd.below {k : IntKind} {w w' : World} {a : Option Addr} {zs : List Int} (h : Rd k w a zs) (hb : Below w.heap.size w w') : Rd k w' a zs := by
  intro hne
  obtain ⟨b, off, rfl, hc⟩ := h hne
  exact ⟨b, off, rfl, fun j hj => (hb.cell (World.block_lt_of_cell? w _ (hc j hj))).trans (hc j hj)⟩
theorem Rd.nil (k : IntKind) (w : World) (a : Option Addr) : Rd k w a [] := fun h => absurd rfl h
/-- A row that a call owns can be read. -/
theorem Rd.own {k : IntKind} {w : World} {base : Nat} {e : TypeId} {a : Option Addr} {n c : Nat} {zs : List Int} (h : w.ownsRow base e 1 (.slice a n c) zs.length (zs.map (Value.int k))) : Rd k w a zs := by
  intro hne
  rcases h.2 with ⟨_, h0⟩ | ⟨g, cap, cur, h', _⟩
  · exact absurd (List.eq_nil_of_length_eq_zero h0) hne
  · simp only [Value.slice.injEq] at h'
    obtain ⟨rfl, rfl, rfl⟩ := h'
    refine ⟨g, 0, rfl, fun j hj => ?_⟩
    rw [Nat.zero_add, h.cellAt j (by omega)]
    simp [List.getD, hj]
theorem rd_block {k : IntKind} {w : World} {b : Nat} {e : TypeId} {m : Nat × Nat} {zs : List Int} (h : w.heap[b]? = some (.cells (zs.map (Value.int k)).toArray e m)) : Rd k w (some ⟨b, 0, none⟩) zs := by
  intro _
  refine ⟨b, 0, rfl, fun j hj => ?_⟩
  rw [Nat.zero_add, cell_of_row w b j _ e m h]
  simp [List.getD, hj]
/-- One call behind another: nothing that was there at the first has turned. -/
theorem bthen {w w1 w2 : World} (h1 : Below w.heap.size w w1) (h2 : Below w1.heap.size w1 w2) : Below w.heap.size w w2 := h1.trans (h2.mono h1.size)
theorem Rd.take {k : IntKind} {w : World} {b o : Nat} {zs : List Int} (h : ∀ j, j < zs.length → w.cell? ⟨b, o + j, none⟩ = some (.int k (zs.getD j 0))) (n : Nat) : Rd k w (some ⟨b, o, none⟩) (zs.take n) := by
  intro _
  refine ⟨b, o, rfl, fun j hj => ?_⟩
  have hj' : j < zs.length ∧ j < n := by rw [List.length_take] at hj; omega
  rw [h j hj'.1]
  simp [List.getD, hj'.2]
theorem Rd.drop {k : IntKind} {w : World} {b o : Nat} {zs : List Int} (h : ∀ j, j < zs.length → w.cell? ⟨b, o + j, none⟩ = some (.int k (zs.getD j 0))) (n : Nat) : Rd k w (some ⟨b, o + n, none⟩) (zs.drop n) := by
  intro _
  refine ⟨b, o + n, rfl, fun j hj => ?_⟩
  have hj' : n + j < zs.length := by rw [List.length_drop] at hj; omega
  have := h (n + j) hj'
  rw [← Nat.add_assoc] at this
  rw [this]
  simp [List.getD]
theorem hid {p : Prop} (h : p) : Hid p := h
end Go.Proofs.Ytcnkcbipkchoiag
namespace Go.Proofs.Ytcnkcbipkchoiag
/-- The first place from lo on of n which holds; lo + n, if there is none. -/
def firstN (p : Nat → Bool) (lo : Nat) : Nat → Nat
  | 0 => lo
  | n + 1 => if p lo = true then lo else firstN p (lo + 1) n
def firstIn (p : Nat → Bool) (lo hi : Nat) : Nat := firstN p lo (hi - lo)
theorem firstN_ge (p : Nat → Bool) (n : Nat) : ∀ lo, lo ≤ firstN p lo n := by
  induction n with
  | zero => intro lo; exact Nat.le_refl _
  | succ n ih =>
    intro lo
    unfold firstN
    split
    · exact Nat.le_refl _
    · have := ih (lo + 1); omega
theorem firstN_le (p : Nat → Bool) (n : Nat) : ∀ lo, firstN p lo n ≤ lo + n := by
  induction n with
  | zero => intro lo; exact Nat.le_refl _
  | succ n ih =>
    intro lo
    unfold firstN
    split
    · omega
    · have := ih (lo + 1); omega
theorem firstN_not (p : Nat → Bool) (n : Nat) : ∀ lo k, lo ≤ k → k < firstN p lo n → p k = false := by
  induction n with
  | zero => intro lo k h1 h2; unfold firstN at h2; omega
  | succ n ih =>
    intro lo k h1 h2
    unfold firstN at h2
    split at h2
    · omega
    · rename_i hp
      by_cases e : k = lo
      · subst e; simpa using hp
      · exact ih (lo + 1) k (by omega) h2
theorem firstN_at (p : Nat → Bool) (n : Nat) : ∀ lo, firstN p lo n < lo + n → p (firstN p lo n) = true := by
  induction n with
  | zero => intro lo h; unfold firstN at h; omega
  | succ n ih =>
    intro lo h
    unfold firstN at h ⊢
    split
    · assumption
    · rename_i hp
      rw [if_neg hp] at h
      exact ih (lo + 1) (by omega)
theorem firstIn_ge (p : Nat → Bool) (lo hi : Nat) : lo ≤ firstIn p lo hi := firstN_ge p _ lo
theorem firstIn_le (p : Nat → Bool) {lo hi : Nat} (h : lo ≤ hi) : firstIn p lo hi ≤ hi := by
  have := firstN_le p (hi - lo) lo
  unfold firstIn; omega
theorem firstIn_not {p : Nat → Bool} {lo hi k : Nat} (h1 : lo ≤ k) (h2 : k < firstIn p lo hi) : p k = false := firstN_not p _ lo k h1 h2
theorem firstIn_at {p : Nat → Bool} {lo hi : Nat} (h : firstIn p lo hi < hi) : p (firstIn p lo hi) = true := by
  have hl := firstIn_ge p lo hi
  exact firstN_at p _ lo (by unfold firstIn at h hl; omega)
theorem firstIn_eq {p : Nat → Bool} {lo hi k : Nat} (h1 : lo ≤ k) (h2 : k ≤ hi) (hb : ∀ j, lo ≤ j → j < k → p j = false) (ha : k < hi → p k = true) : firstIn p lo hi = k := by
  have hl := firstIn_ge p lo hi
  have hh := firstIn_le p (Nat.le_trans h1 h2)
  rcases Nat.lt_trichotomy (firstIn p lo hi) k with h | h | h
  · have h3 := firstIn_at (p := p) (lo := lo) (hi := hi) (by omega)
    rw [hb _ hl h] at h3
    cases h3
  · exact h
  · have h3 := firstIn_not h1 h
    rw [ha (by omega)] at h3
    cases h3
theorem firstIn_lt {p : Nat → Bool} {lo hi k : Nat} (h1 : lo ≤ k) (hp : p k = true) : firstIn p lo hi ≤ k := by
  rcases Nat.lt_or_ge k (firstIn p lo hi) with h | h
  · rw [firstIn_not h1 h] at hp; cases hp
  · exact h
theorem firstIn_none {p : Nat → Bool} {lo hi : Nat} (h : lo ≤ hi) (hn : ∀ k, lo ≤ k → k < hi → p k = false) : firstIn p lo hi = hi :=
  firstIn_eq h (Nat.le_refl _) hn (fun h => absurd h (Nat.lt_irrefl _))
structure PieceM where
  num : Int
  frm : Int
  last : Bool
  data : ByteArray
def PieceM.zero : PieceM := ⟨0, 0, false, ByteArray.empty⟩
structure GapM where
  num : Int
  frm : Int
  til : Int
structure ReportM where
  next : Int
  miss : List GapM
/-- Units; of each byte 0 not sent, 1 sent, 2 to be sent again. -/
structure OutM where
  win : Nat
  text : List ByteArray
  mark : Nat → Nat → Nat
  done : Nat → Bool
  beg : Nat
def OutM.new (win : Nat) : OutM := ⟨win, [], fun _ _ => 0, fun _ => false, 0⟩
def OutM.n (m : OutM) : Nat := m.text.length
def OutM.t (m : OutM) (u : Nat) : ByteArray := m.text.getD u ByteArray.empty
def OutM.sz (m : OutM) (u : Nat) : Nat := (m.t u).size
def OutM.wait (m : OutM) : Nat := ((List.range m.n).filter fun u => !m.done u).length
structure OutS where
  m : OutM
  err : Int
def OutM.submit (m : OutM) (s : ByteArray) : OutS :=
  if s.size = 0 then ⟨m, 1⟩ else if 1500 < s.size then ⟨m, 2⟩ else if 64 ≤ m.wait then ⟨m, 7⟩ else ⟨{ m with text := m.text ++ [s] }, 0⟩
def OutM.hit (m : OutM) (k u : Nat) : Nat := firstIn (fun i => m.mark u i == k) 0 (m.sz u)
def OutM.can (m : OutM) (k u : Nat) : Bool := decide (m.hit k u < m.sz u) && (k == 2 || !m.done u)
def OutM.edge (m : OutM) (k : Nat) : Nat := if k = 2 then m.n else min m.n (m.beg + m.win)
def OutM.who (m : OutM) (k : Nat) : Nat := firstIn (m.can k) m.beg (m.edge k)
def OutM.cut (m : OutM) (k u size : Nat) : Nat := firstIn (fun i => m.mark u i != k) (m.hit k u) (min (m.sz u) (m.hit k u + size))
def OutM.sent (m : OutM) (u a b : Nat) : OutM := { m with mark := fun v i => if v = u ∧ a ≤ i ∧ i < b then 1 else m.mark v i }
def OutM.piece (m : OutM) (u a b : Nat) : PieceM := ⟨((u % 64 : Nat) : Int), a, decide (b = m.sz u), (m.t u).extract a b⟩
structure OutP where
  m : OutM
  p : PieceM
  err : Int
def OutM.send (m : OutM) (k u size : Nat) : OutP := ⟨m.sent u (m.hit k u) (m.cut k u size), m.piece u (m.hit k u) (m.cut k u size), 0⟩
def OutM.next (m : OutM) (size : Int) : OutP :=
  if size < 1 ∨ 1500 < size then ⟨m, .zero, 1⟩ else if m.who 2 < m.edge 2 then m.send 2 (m.who 2) size.toNat else if m.who 0 < m.edge 0 then m.send 0 (m.who 0) size.toNat else ⟨m, .zero, 6⟩
/-- How far a number is ahead. -/
def aheadN (num : Int) (beg : Nat) : Nat := ((num - ((beg % 64 : Nat) : Int)) % 64).toNat
def OutM.spoken (m : OutM) (d : Nat) : Bool := (List.range d).all fun i => decide (m.beg + i < m.n) && (m.mark (m.beg + i) 0 != 0)
def OutM.gapOk (m : OutM) (d : Nat) (g : GapM) : Bool :=
  decide (0 ≤ g.num ∧ g.num ≤ 63) && (decide (aheadN g.num m.beg < d) && decide (0 ≤ g.frm ∧ g.frm < m.sz (m.beg + aheadN g.num m.beg) ∧ g.til ≤ m.sz (m.beg + aheadN g.num m.beg) ∧ (g.til < 0 ∨ g.frm < g.til)))
def GapM.of (beg : Nat) (u : Nat) (g : GapM) : Bool := beg + aheadN g.num beg == u
def GapM.at (g : GapM) (i : Nat) : Bool := decide (g.frm ≤ i ∧ (g.til < 0 ∨ (i : Int) < g.til))
def hasGap (beg : Nat) (gs : List GapM) (u : Nat) : Bool := gs.any fun g => g.of beg u
def inGap (beg : Nat) (gs : List GapM) (u i : Nat) : Bool := gs.any fun g => g.of beg u && g.at i
def OutM.mark2 (m : OutM) (d : Nat) (gs : List GapM) (u i : Nat) : Nat :=
  if u < m.beg then m.mark u i
  else if u < m.beg + d then
    if hasGap m.beg gs u = true then (if inGap m.beg gs u i = true ∧ m.mark u i = 1 ∧ m.done u = false then 2 else m.mark u i)
    else (if m.mark u i = 2 then 1 else m.mark u i)
  else (if m.mark u i = 1 ∧ m.done u = false then 2 else m.mark u i)
def OutM.done2 (m : OutM) (d : Nat) (gs : List GapM) (u : Nat) : Bool := m.done u || (decide (m.beg ≤ u ∧ u < m.beg + d) && !hasGap m.beg gs u)
def OutM.taken (m : OutM) (d : Nat) (gs : List GapM) : OutM :=
  ⟨m.win, m.text, m.mark2 d gs, m.done2 d gs, firstIn (fun u => !m.done2 d gs u) m.beg m.n⟩
def OutM.take (m : OutM) (r : ReportM) : OutS :=
  if r.next < 0 ∨ 63 < r.next then ⟨m, 3⟩ else if m.spoken (aheadN r.next m.beg) = false then ⟨m, 3⟩ else if r.miss.all (m.gapOk (aheadN r.next m.beg)) = false then ⟨m, 3⟩ else ⟨m.taken (aheadN r.next m.beg) r.miss, 0⟩
/-- Of each unit its bytes that are there, its length where it is known, and the end of what is there; hi: behind the last unit of which something is there. -/
structure InM where
  win : Nat
  fst : Nat
  hi : Nat
  got : Nat → Nat → Option UInt8
  len : Nat → Option Nat
  fin : Nat → Nat
def InM.new (win : Nat) : InM := ⟨win, 0, 0, fun _ _ => none, fun _ => none, fun _ => 0⟩
def PieceM.bad (p : PieceM) : Bool := decide (p.num < 0 ∨ 63 < p.num ∨ p.frm < 0 ∨ 1500 < p.frm ∨ 1500 < p.frm + p.data.size ∨ p.data.size = 0)
def PieceM.a (p : PieceM) : Nat := p.frm.toNat
def PieceM.b (p : PieceM) : Nat := p.frm.toNat + p.data.size
def InM.clash (r : InM) (u : Nat) (p : PieceM) : Bool :=
  (match r.len u with
    | none => false
    | some n => (p.last && n != p.b) || decide (n < p.b)) || (p.last && decide (p.b < r.fin u))
def InM.put (r : InM) (u : Nat) (p : PieceM) : InM :=
  ⟨r.win, r.fst, max r.hi (u + 1), fun v i => if v = u ∧ p.a ≤ i ∧ i < p.b ∧ r.got v i = none then some (p.data.get! (i - p.a)) else r.got v i,
    fun v => if v = u ∧ p.last = true then some p.b else r.len v, fun v => if v = u then max (r.fin u) p.b else r.fin v⟩
def InM.whole (r : InM) (u : Nat) : Bool :=
  match r.len u with
  | none => false
  | some n => firstIn (fun i => (r.got u i).isNone) 0 n == n
def InM.textOf (r : InM) (u : Nat) : ByteArray := ⟨((List.range ((r.len u).getD 0)).map fun i => (r.got u i).getD 0).toArray⟩
def InM.upto (r : InM) : Nat := firstIn (fun u => !r.whole u) r.fst (max r.fst r.hi)
structure InS where
  m : InM
  out : List ByteArray
  err : Int
def InM.tell (r : InM) : InS := ⟨{ r with fst := r.upto }, (List.range (r.upto - r.fst)).map fun i => r.textOf (r.fst + i), 0⟩
def InM.take (r : InM) (p : PieceM) : InS :=
  if p.bad = true then ⟨r, [], 3⟩ else if r.win ≤ aheadN p.num r.fst then ⟨r, [], 8⟩ else if r.clash (r.fst + aheadN p.num r.fst) p = true then ⟨r, [], 3⟩ else (r.put (r.fst + aheadN p.num r.fst) p).tell
/-- The runs of places that hold, of n from lo on. -/
def runsN (p : Nat → Bool) (e : Nat) : Nat → Nat → List (Nat × Nat)
  | 0, _ => []
  | f + 1, i => if firstIn p i e < e then (firstIn p i e, firstIn (fun k => !p k) (firstIn p i e) e) :: runsN p e f (firstIn (fun k => !p k) (firstIn p i e) e) else []
def InM.ends (r : InM) (u : Nat) : Nat := (r.len u).getD (r.fin u)
def InM.gaps (r : InM) (u : Nat) : List GapM :=
  ((runsN (fun i => (r.got u i).isNone) (r.ends u) (r.ends u + 1) 0).map fun q => (⟨((u % 64 : Nat) : Int), q.1, q.2⟩ : GapM)) ++ (match r.len u with
    | none => [⟨((u % 64 : Nat) : Int), r.ends u, -1⟩]
    | some _ => [])
def InM.nxt (r : InM) : Nat := max r.fst r.hi
def InM.report (r : InM) : ReportM := ⟨((r.nxt % 64 : Nat) : Int), (List.range (r.nxt - r.fst)).flatMap fun i => r.gaps (r.fst + i)⟩
end Go.Proofs.Ytcnkcbipkchoiag
namespace Go.Proofs.Ytcnkcbipkchoiag
theorem runs_mem {p : Nat → Bool} {e : Nat} (f : Nat) : ∀ i q, q ∈ runsN p e f i → i ≤ q.1 ∧ q.1 < q.2 ∧ q.2 ≤ e ∧ ∀ k, q.1 ≤ k → k < q.2 → p k = true := by
  induction f with
  | zero => intro i q h; cases h
  | succ f ih =>
    intro i q h
    unfold runsN at h
    split at h
    case isFalse => cases h
    rename_i ha
    have h1 := firstIn_ge p i e
    have h2 := firstIn_at ha
    have h3 := firstIn_ge (fun k => !p k) (firstIn p i e) e
    have h4 := firstIn_le (fun k => !p k) (Nat.le_of_lt ha)
    have h5 : firstIn p i e < firstIn (fun k => !p k) (firstIn p i e) e := by
      rcases Nat.lt_or_ge (firstIn p i e) (firstIn (fun k => !p k) (firstIn p i e) e) with h | h
      · exact h
      · have h6 : firstIn (fun k => !p k) (firstIn p i e) e = firstIn p i e := by omega
        have h7 := firstIn_at (p := fun k => !p k) (lo := firstIn p i e) (hi := e) (by omega)
        rw [h6, h2] at h7
        cases h7
    rcases List.mem_cons.mp h with rfl | h
    · refine ⟨h1, h5, h4, ?_⟩
      intro k h8 h9
      have h10 := firstIn_not (p := fun k => !p k) h8 h9
      simpa using h10
    · obtain ⟨g1, g2, g3, g4⟩ := ih _ _ h
      exact ⟨by omega, g2, g3, g4⟩
theorem runs_cover {p : Nat → Bool} {e : Nat} (f : Nat) : ∀ i, e - i < f → ∀ k, i ≤ k → k < e → p k = true → ∃ q ∈ runsN p e f i, q.1 ≤ k ∧ k < q.2 := by
  induction f with
  | zero => intro i h; omega
  | succ f ih =>
    intro i hf k h1 h2 h3
    have ha : firstIn p i e ≤ k := firstIn_lt h1 h3
    have hae : firstIn p i e < e := by omega
    have hge := firstIn_ge p i e
    have hat := firstIn_at hae
    have hb1 := firstIn_ge (fun k => !p k) (firstIn p i e) e
    have hb2 : firstIn p i e < firstIn (fun k => !p k) (firstIn p i e) e := by
      rcases Nat.lt_or_ge (firstIn p i e) (firstIn (fun k => !p k) (firstIn p i e) e) with h | h
      · exact h
      · have h6 : firstIn (fun k => !p k) (firstIn p i e) e = firstIn p i e := by omega
        have h7 := firstIn_at (p := fun k => !p k) (lo := firstIn p i e) (hi := e) (by omega)
        rw [h6, hat] at h7
        cases h7
    unfold runsN
    rw [if_pos hae]
    by_cases h : k < firstIn (fun k => !p k) (firstIn p i e) e
    · exact ⟨_, List.mem_cons_self, ha, h⟩
    · obtain ⟨q, hq, hq1, hq2⟩ := ih (firstIn (fun k => !p k) (firstIn p i e) e) (by omega) k (by omega) h2 h3
      exact ⟨q, List.mem_cons_of_mem _ hq, hq1, hq2⟩
theorem aheadN_fwd {beg u : Nat} (h1 : beg ≤ u) (h2 : u < beg + 64) : aheadN ((u % 64 : Nat) : Int) beg = u - beg := by
  unfold aheadN
  omega
theorem aheadN_back {fst u : Nat} (h1 : u < fst) (h2 : fst ≤ u + 32) : 32 ≤ aheadN ((u % 64 : Nat) : Int) fst := by
  unfold aheadN
  omega
/-- A unit is whole, in words. -/
def Wholly (r : InM) (u : Nat) : Prop := ∃ n, r.len u = some n ∧ ∀ i, i < n → r.got u i ≠ none
theorem whole_iff (r : InM) (u : Nat) : r.whole u = true ↔ Wholly r u := by
  unfold InM.whole Wholly
  cases hl : r.len u with
  | none => simp
  | some n =>
    simp only [beq_iff_eq]
    constructor
    · intro h
      refine ⟨n, rfl, ?_⟩
      intro i hi hn
      have h1 := firstIn_not (p := fun i => (r.got u i).isNone) (lo := 0) (hi := n) (Nat.zero_le i) (by omega)
      rw [hn] at h1
      cases h1
    · rintro ⟨n', h1, h2⟩
      injection h1 with h1
      subst h1
      refine firstIn_none (Nat.zero_le _) ?_
      intro k _ hk
      have := h2 k hk
      cases hg : r.got u k with
      | none => exact absurd hg this
      | some _ => rfl
structure Pair (m : OutM) (r : InM) : Prop where
  win : r.win = m.win
  w1 : 1 ≤ m.win
  w32 : m.win ≤ 32
  size : ∀ u, u < m.n → 1 ≤ m.sz u ∧ m.sz u ≤ 1500
  lo : m.beg ≤ r.fst
  up : r.fst ≤ m.n
  fw : r.fst ≤ m.beg + m.win
  two : ∀ u i, m.mark u i ≤ 2
  ins : ∀ u i, m.mark u i ≠ 0 → u < m.n ∧ i < m.sz u
  pre : ∀ u i, m.mark u i ≠ 0 → ∀ j, j ≤ i → m.mark u j ≠ 0
  ord : ∀ u i, m.mark u i ≠ 0 → ∀ v, v < u → ∀ j, j < m.sz v → m.mark v j ≠ 0
  inw : ∀ u i, m.mark u i ≠ 0 → u < m.beg + m.win
  got : ∀ u i b, r.got u i = some b → m.mark u i ≠ 0 ∧ b = (m.t u).get! i
  len : ∀ u k, r.len u = some k → k = m.sz u ∧ u < m.n
  finA : ∀ u i, r.got u i ≠ none → i < r.fin u
  finB : ∀ u, r.fin u = 0 ∨ r.got u (r.fin u - 1) ≠ none
  finC : ∀ u, u < m.n → r.fin u = m.sz u → r.len u = some (m.sz u)
  hiA : ∀ u i, r.got u i ≠ none → u < r.hi
  hiB : r.hi = 0 ∨ ∃ i, r.got (r.hi - 1) i ≠ none
  told : ∀ u, u < r.fst → Wholly r u
  stop : ¬Wholly r r.fst
  dn : ∀ u, m.done u = true → Wholly r u
  bdn : ∀ u, u < m.beg → m.done u = true
theorem Pair.sz_of_got {m : OutM} {r : InM} (h : Pair m r) {u i : Nat} (hg : r.got u i ≠ none) : u < m.n ∧ i < m.sz u ∧ m.mark u i ≠ 0 := by
  cases e : r.got u i with
  | none => exact absurd e hg
  | some b =>
    obtain ⟨h1, _⟩ := h.got u i b e
    exact ⟨(h.ins u i h1).1, (h.ins u i h1).2, h1⟩
theorem Pair.fin_le {m : OutM} {r : InM} (h : Pair m r) (u : Nat) : r.fin u ≤ m.sz u := by
  rcases h.finB u with e | e
  · omega
  · have := (h.sz_of_got e).2.1
    omega
/-- A whole unit was sent, all of it. -/
theorem Pair.whole_mark {m : OutM} {r : InM} (h : Pair m r) {u : Nat} (hw : Wholly r u) : u < m.n ∧ ∀ i, i < m.sz u → r.got u i ≠ none ∧ m.mark u i ≠ 0 := by
  obtain ⟨n, h1, h2⟩ := hw
  obtain ⟨rfl, hn⟩ := h.len u n h1
  exact ⟨hn, fun i hi => ⟨h2 i hi, (h.sz_of_got (h2 i hi)).2.2⟩⟩
theorem Pair.hi_le {m : OutM} {r : InM} (h : Pair m r) : r.hi ≤ m.n ∧ r.hi ≤ m.beg + m.win := by
  rcases h.hiB with e | ⟨i, e⟩
  · omega
  · have h1 := h.sz_of_got e
    have h2 := h.inw _ _ h1.2.2
    omega
theorem Pair.nxt_le {m : OutM} {r : InM} (h : Pair m r) : r.nxt ≤ m.n ∧ r.nxt ≤ m.beg + m.win ∧ r.fst ≤ r.nxt ∧ r.hi ≤ r.nxt := by
  have h1 := h.hi_le
  have h2 := h.up
  have h3 := h.fw
  unfold InM.nxt
  omega
theorem Pair.nxt_mark {m : OutM} {r : InM} (h : Pair m r) {u : Nat} (hu : u < r.nxt) : m.mark u 0 ≠ 0 := by
  have hn := h.nxt_le
  have hs := h.size u (by omega)
  by_cases hf : u < r.fst
  · exact ((h.whole_mark (h.told u hf)).2 0 (by omega)).2
  · have h2 : u < r.hi := by unfold InM.nxt at hu; omega
    rcases h.hiB with e | ⟨i, e⟩
    · omega
    · have h3 := (h.sz_of_got e).2.2
      by_cases hx : u = r.hi - 1
      · subst hx
        exact h.pre _ _ h3 0 (Nat.zero_le _)
      · exact h.ord _ _ h3 u (by omega) 0 (by omega)
/-- The gaps of a unit. -/
theorem Pair.gap_mem {m : OutM} {r : InM} (h : Pair m r) {u : Nat} (hu : u < m.n) {g : GapM} (hg : g ∈ r.gaps u) : g.num = ((u % 64 : Nat) : Int) ∧ 0 ≤ g.frm ∧ g.frm < m.sz u ∧ g.til ≤ m.sz u ∧ (g.til < 0 ∨ g.frm < g.til) := by
  have hf := h.fin_le u
  have he : r.ends u ≤ m.sz u := by
    unfold InM.ends
    cases hl : r.len u with
    | none => exact hf
    | some k => exact Nat.le_of_eq (h.len u k hl).1
  unfold InM.gaps at hg
  rcases List.mem_append.mp hg with hg | hg
  · obtain ⟨q, hq, rfl⟩ := List.mem_map.mp hg
    obtain ⟨_, h2, h3, _⟩ := runs_mem _ _ _ hq
    refine ⟨rfl, ?_, ?_, ?_, ?_⟩ <;> simp only <;> omega
  · cases hl : r.len u with
    | none =>
      rw [hl] at hg
      rcases List.mem_singleton.mp hg with rfl
      have h1 : r.ends u = r.fin u := by unfold InM.ends; rw [hl]; rfl
      have h2 : r.fin u ≠ m.sz u := by
        intro e
        rw [h.finC u hu e] at hl
        cases hl
      refine ⟨rfl, ?_, ?_, ?_, ?_⟩ <;> simp only [h1] <;> omega
    | some k => rw [hl] at hg; cases hg
theorem gap_at {r : InM} {u : Nat} {g : GapM} (hg : g ∈ r.gaps u) {i : Nat} (hi : g.at i = true) (hn : r.got u i ≠ none) (hf : i < r.fin u) : False := by
  unfold InM.gaps at hg
  rcases List.mem_append.mp hg with hg | hg
  · obtain ⟨q, hq, rfl⟩ := List.mem_map.mp hg
    obtain ⟨_, _, _, h4⟩ := runs_mem _ _ _ hq
    unfold GapM.at at hi
    simp only [decide_eq_true_eq] at hi
    have h5 := h4 i (by omega) (by omega)
    cases e : r.got u i with
    | none => exact hn e
    | some b => rw [e] at h5; cases h5
  · cases hl : r.len u with
    | none =>
      rw [hl] at hg
      rcases List.mem_singleton.mp hg with rfl
      have h1 : r.ends u = r.fin u := by unfold InM.ends; rw [hl]; rfl
      unfold GapM.at at hi
      simp only [decide_eq_true_eq, h1] at hi
      omega
    | some k => rw [hl] at hg; cases hg
theorem Pair.gap_has {m : OutM} {r : InM} (h : Pair m r) {u i : Nat} (hi : i < m.sz u) (hn : r.got u i = none) : ∃ g ∈ r.gaps u, g.at i = true := by
  by_cases he : i < r.ends u
  · obtain ⟨q, hq, h1, h2⟩ := runs_cover (p := fun i => (r.got u i).isNone) (e := r.ends u) (r.ends u + 1) 0 (by omega) i (Nat.zero_le _) he (by simp only [hn]; rfl)
    refine ⟨_, List.mem_append_left _ (List.mem_map.mpr ⟨q, hq, rfl⟩), ?_⟩
    unfold GapM.at
    simp only [decide_eq_true_eq]
    omega
  · cases hl : r.len u with
    | none =>
      refine ⟨⟨((u % 64 : Nat) : Int), r.ends u, -1⟩, ?_, ?_⟩
      · unfold InM.gaps
        rw [hl]
        exact List.mem_append_right _ (List.mem_singleton.mpr rfl)
      · unfold GapM.at
        simp only [decide_eq_true_eq]
        omega
    | some k =>
      have h1 := (h.len u k hl).1
      have h2 : r.ends u = k := by unfold InM.ends; rw [hl]; rfl
      omega
theorem Pair.gap_none {m : OutM} {r : InM} (h : Pair m r) {u : Nat} (hw : ¬Wholly r u) : ∃ g, g ∈ r.gaps u := by
  cases hl : r.len u with
  | none =>
    refine ⟨⟨((u % 64 : Nat) : Int), r.ends u, -1⟩, ?_⟩
    unfold InM.gaps
    rw [hl]
    exact List.mem_append_right _ (List.mem_singleton.mpr rfl)
  | some k =>
    have h1 := (h.len u k hl).1
    by_cases hx : ∃ i, i < m.sz u ∧ r.got u i = none
    · obtain ⟨i, h2, h3⟩ := hx
      obtain ⟨g, hg, _⟩ := h.gap_has h2 h3
      exact ⟨g, hg⟩
    · exfalso
      apply hw
      refine ⟨k, hl, ?_⟩
      intro i hi e
      exact hx ⟨i, by omega, e⟩
theorem Pair.gap_whole {m : OutM} {r : InM} (h : Pair m r) {u : Nat} (hw : Wholly r u) {g : GapM} (hg : g ∈ r.gaps u) : False := by
  obtain ⟨hu, hw2⟩ := h.whole_mark hw
  obtain ⟨_, h1, h2, _, h4⟩ := h.gap_mem hu hg
  have h5 : g.at g.frm.toNat = true := by
    unfold GapM.at
    simp only [decide_eq_true_eq]
    omega
  have h6 := (hw2 g.frm.toNat (by omega)).1
  exact gap_at hg h5 h6 (h.finA _ _ h6)
end Go.Proofs.Ytcnkcbipkchoiag
