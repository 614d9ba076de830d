import Derived.Test.YtcnkcbipkchoiagRpE
import Derived.Test.YtcnkcbipkchoiagInts
namespace Go.Proofs.Ytcnkcbipkchoiag
open Go.ChangeShapes Go.WideShapes Go.ChangeAt Go.RowKit

/-! WHAT THE LAWS ASK OF A SENDER AND A RECEIVER OF UNITS (P25, P26). -/

def PieceM.cells (p : PieceM) : List Value := [.int .i64 p.num, .int .i64 p.frm, .bool p.last, .string p.data]
def PieceM.val (p : PieceM) : Value := .agg #[.int .i64 p.num, .int .i64 p.frm, .bool p.last, .string p.data]
def GapM.cells (g : GapM) : List Value := [.int .i64 g.num, .int .i64 g.frm, .int .i64 g.til]
def GapM.zero : GapM := ⟨0, 0, 0⟩

/-- Texts that can be read. -/
def Txs (w : World) (a : Option Addr) (l : List ByteArray) : Prop := l ≠ [] → ∃ b o, a = some ⟨b, o, none⟩ ∧ ∀ i, i < l.length → w.cell? ⟨b, o + i, none⟩ = some (.string (l.getD i ByteArray.empty))
theorem Txs.at {w : World} {a : Option Addr} {l : List ByteArray} (h : Txs w a l) {i : Nat} (hi : i < l.length) : ∃ b o, a = some ⟨b, o, none⟩ ∧ ∀ i, i < l.length → w.cell? ⟨b, o + i, none⟩ = some (.string (l.getD i ByteArray.empty)) := h (by rintro rfl; simp at hi)
/-- Gaps that can be read. -/
def Gps (w : World) (a : Option Addr) (l : List GapM) : Prop := l ≠ [] → ∃ b o, a = some ⟨b, o, none⟩ ∧ ∀ i, i < l.length → w.cell? ⟨b, o + i * 3, none⟩ = some (.int .i64 (l.getD i .zero).num) ∧ w.cell? ⟨b, o + i * 3 + 1, none⟩ = some (.int .i64 (l.getD i .zero).frm) ∧ w.cell? ⟨b, o + i * 3 + 2, none⟩ = some (.int .i64 (l.getD i .zero).til)
/-- It lies in new memory. -/
def NewAt (n : Nat) (a : Option Addr) : Prop := ∀ x, a = some x → n ≤ x.block
def NotIn (F : List Nat) (a : Option Addr) : Prop := ∀ x, a = some x → x.block ∉ F
def Grown (n : Nat) (F F' : List Nat) : Prop := ∀ x ∈ F', x ∈ F ∨ n ≤ x
theorem keptCellQ {S : List Nat} {w w' : World} (hk : Kept S w w') {a : Addr} {v : Value} (h : w.cell? a = some v) (hn : a.block ∉ S) : w'.cell? a = some v := (World.cell?_of_block (hk.block a.block (World.block_lt_of_cell? w a h) hn)).trans h
theorem Txs.kept {w w' : World} {a : Option Addr} {l : List ByteArray} {S : List Nat} (h : Txs w a l) (hk : Kept S w w') (hn : NotIn S a) : Txs w' a l := by
  intro hne
  obtain ⟨b, o, rfl, hC⟩ := h hne
  exact ⟨b, o, rfl, fun i hi => keptCellQ hk (hC i hi) (hn ⟨b, o, none⟩ rfl)⟩
theorem Gps.kept {w w' : World} {a : Option Addr} {l : List GapM} {S : List Nat} (h : Gps w a l) (hk : Kept S w w') (hn : NotIn S a) : Gps w' a l := by
  intro hne
  obtain ⟨b, o, rfl, hC⟩ := h hne
  exact ⟨b, o, rfl, fun i hi => ⟨keptCellQ hk (hC i hi).1 (hn ⟨b, o, none⟩ rfl), keptCellQ hk (hC i hi).2.1 (hn ⟨b, o, none⟩ rfl), keptCellQ hk (hC i hi).2.2 (hn ⟨b, o, none⟩ rfl)⟩⟩
theorem NewAt.notIn {n : Nat} {a : Option Addr} {F : List Nat} (h : NewAt n a) (hF : ∀ x ∈ F, x < n) : NotIn F a := fun x e hx => by
  have h1 := h x e
  have h2 := hF _ hx
  omega

/-- How many units, at the most, a law speaks of. -/
def manyU : Nat := 70368744177664
/-- How long, at the most, a text is. -/
def manyB : Nat := 140737488355328

/-- A sender and a receiver lie at p, in the blocks F. -/
structure RepLaws (Snd : World → Addr → List Nat → OutM → Prop) (Rcv : World → Addr → List Nat → InM → Prop) : Prop where
  slt : ∀ {w p F m}, Snd w p F m → ∀ x ∈ F, x < w.heap.size
  rlt : ∀ {w p F r}, Rcv w p F r → ∀ x ∈ F, x < w.heap.size
  skept : ∀ {w w' p F m T}, Snd w p F m → Kept T w w' → (∀ x ∈ F, x ∉ T) → Snd w' p F m
  rkept : ∀ {w w' p F r T}, Rcv w p F r → Kept T w w' → (∀ x ∈ F, x ∉ T) → Rcv w' p F r
  snew : ∀ (k : Int) (w : World), 1 ≤ k → k ≤ 32 → Calls Try.prog 36 #[.int .i64 k] w fun e w' => ∃ p F, e = .returned (.tuple #[.pointer (some p), .int .i64 0]) ∧ Snd w' p F (OutM.new k.toNat) ∧ (∀ x ∈ F, w.heap.size ≤ x) ∧ Below w.heap.size w w'
  snewBad : ∀ (k : Int) (w : World), k < 1 ∨ 32 < k → Calls Try.prog 36 #[.int .i64 k] w fun e w' => e = .returned (.tuple #[.pointer none, .int .i64 1]) ∧ Below w.heap.size w w'
  rnew : ∀ (k : Int) (w : World), 1 ≤ k → k ≤ 32 → Calls Try.prog 37 #[.int .i64 k] w fun e w' => ∃ p F, e = .returned (.tuple #[.pointer (some p), .int .i64 0]) ∧ Rcv w' p F (InM.new k.toNat) ∧ (∀ x ∈ F, w.heap.size ≤ x) ∧ Below w.heap.size w w'
  rnewBad : ∀ (k : Int) (w : World), k < 1 ∨ 32 < k → Calls Try.prog 37 #[.int .i64 k] w fun e w' => e = .returned (.tuple #[.pointer none, .int .i64 1]) ∧ Below w.heap.size w w'
  submit : ∀ {w p F m} (s : ByteArray), Snd w p F m → m.n < manyU → s.size ≤ manyB → Calls Try.prog 38 #[.pointer (some p), .string s] w fun e w' => e = .returned (.int .i64 (m.submit s).err) ∧ Kept F w w' ∧ ∃ F', Snd w' p F' (m.submit s).m ∧ Grown w.heap.size F F'
  next : ∀ {w p F m} (size : Int), Snd w p F m → m.n ≤ manyU → Calls Try.prog 39 #[.pointer (some p), .int .i64 size] w fun e w' => e = .returned (.tuple #[(m.next size).p.val, .int .i64 (m.next size).err]) ∧ Kept F w w' ∧ ∃ F', Snd w' p F' (m.next size).m ∧ Grown w.heap.size F F'
  take : ∀ {w p F m} (r : ReportM) (a : Option Addr) (n c : Nat), Snd w p F m → m.n ≤ manyU → Gps w a r.miss → NotIn F a → r.miss.length = n → n ≤ maxLen → Calls Try.prog 43 #[.pointer (some p), .agg #[.int .i64 r.next, .slice a n c]] w fun e w' => e = .returned (.int .i64 (m.take r).err) ∧ Kept F w w' ∧ ∃ F', Snd w' p F' (m.take r).m ∧ Grown w.heap.size F F'
  wait : ∀ {w p F m}, Snd w p F m → m.n ≤ manyU → Calls Try.prog 87 #[.pointer (some p)] w fun e w' => e = .returned (.int .i64 (m.wait : Nat)) ∧ Kept F w w' ∧ ∃ F', Snd w' p F' m ∧ Grown w.heap.size F F'
  rtake : ∀ {w p F r} (x : PieceM), Rcv w p F r → r.fst ≤ manyU → x.data.size ≤ manyB → Calls Try.prog 40 #[.pointer (some p), x.val] w fun e w' => ∃ a n c, e = .returned (.tuple #[.slice a n c, .int .i64 (r.take x).err]) ∧ Txs w' a (r.take x).out ∧ (r.take x).out.length = n ∧ NewAt w.heap.size a ∧ Kept F w w' ∧ ∃ F', Rcv w' p F' (r.take x).m ∧ Grown w.heap.size F F' ∧ NotIn F' a
  report : ∀ {w p F r}, Rcv w p F r → r.fst ≤ manyU → Calls Try.prog 46 #[.pointer (some p)] w fun e w' => ∃ a n c, e = .returned (.agg #[.int .i64 r.report.next, .slice a n c]) ∧ Gps w' a r.report.miss ∧ r.report.miss.length = n ∧ n ≤ maxLen ∧ NewAt w.heap.size a ∧ Kept F w w' ∧ ∃ F', Rcv w' p F' r ∧ Grown w.heap.size F F' ∧ NotIn F' a
end Go.Proofs.Ytcnkcbipkchoiag
