import Derived.Test.YtbjgfoiikhbonafK04
import Derived.BigRegion
import Derived.BigQuiet
import Derived.Deep.Cut
set_option linter.unusedVariables false
set_option linter.unusedSimpArgs false
namespace Go.Proofs.Ytbjgfoiikhbonaf
open Go.ChangeShapes Go.WideShapes Go.ChangeAt Go.RowKit
/-- A list of numbers of one's own. -/
def OwnI (w : World) (B : Nat) (v : Value) (L : List Int) : Prop := w.ownsRow B 3 1 v L.length (L.map (Value.int .i64))
theorem OwnI.nil (w : World) (B : Nat) : OwnI w B (.slice none 0 0) [] := World.ownsRow_nil _ _ _ _
theorem OwnI.snoc {w : World} {B : Nat} {v : Value} {L : List Int} {x : Int} (h : w.ownsRow B 3 1 v (L.length + 1) (L.map (Value.int .i64) ++ [.int .i64 x])) : OwnI w B v (L ++ [x]) := by
  unfold OwnI
  rw [List.length_append, List.map_append]
  exact h
theorem OwnI.rd {w : World} {B n c : Nat} {a : Option Addr} {L : List Int} (h : OwnI w B (.slice a n c) L) : Rd .i64 w a L := Rd.own h
theorem OwnI.shape {w : World} {B : Nat} {v : Value} {L : List Int} (h : OwnI w B v L) : ∃ a c, v = .slice a L.length c ∧ L.length ≤ c ∧ c ≤ maxLen := by
  rcases h.2 with ⟨rfl, h0⟩ | ⟨g, cap, cur, rfl, _, _, h1, h2, _⟩
  · exact ⟨none, 0, by rw [h0], by omega, by unfold maxLen; omega⟩
  · exact ⟨_, cap, rfl, h1, h2⟩
theorem OwnI.below {w w' : World} {B : Nat} {v : Value} {L : List Int} (h : OwnI w B v L) (hb : Below w.heap.size w w') : OwnI w' B v L := by
  refine ⟨h.1, ?_⟩
  rcases h.2 with h' | ⟨g, cap, cur, h1, h2, h3, h4⟩
  · exact .inl h'
  · have hlt : g < w.heap.size := by
      rcases Nat.lt_or_ge g w.heap.size with hl | hl
      · exact hl
      · rw [Array.getElem?_eq_none hl] at h3; cases h3
    exact .inr ⟨g, cap, cur, h1, h2, (hb.block g hlt).trans h3, h4⟩
theorem OwnI.mono {w : World} {B B' : Nat} {v : Value} {L : List Int} (h : OwnI w B v L) (hB : B' ≤ B) : OwnI w B' v L := by
  refine ⟨h.1, ?_⟩
  rcases h.2 with h' | ⟨g, cap, cur, h1, h2, h3⟩
  · exact .inl h'
  · exact .inr ⟨g, cap, cur, h1, by omega, h3⟩
theorem OwnI.len {w : World} {B g N c : Nat} {L : List Int} (h : OwnI w B (.slice (some ⟨g, 0, none⟩) N c) L) : L.length = N := by
  rcases h.2 with ⟨h', _⟩ | ⟨g', cap, cur, h', _⟩
  · simp at h'
  · simp only [Value.slice.injEq] at h'
    exact h'.2.1.symm
theorem OwnI.block {w : World} {B g N c : Nat} {L : List Int} (h : OwnI w B (.slice (some ⟨g, 0, none⟩) N c) L) : B ≤ g ∧ g < w.heap.size := h.lt g rfl
end Go.Proofs.Ytbjgfoiikhbonaf
namespace Go.Proofs.Ytbjgfoiikhbonaf
open Go.ChangeShapes Go.WideShapes Go.ChangeAt Go.RowKit
def PieceM.cells (p : PieceM) : List Value := [.int .i64 p.num, .int .i64 p.frm, .bool p.last, .string p.data]
def PieceM.val (p : PieceM) : Value := .agg #[.int .i64 p.num, .int .i64 p.frm, .bool p.last, .string p.data]
def GapM.cells (g : GapM) : List Value := [.int .i64 g.num, .int .i64 g.frm, .int .i64 g.til]
def GapM.zero : GapM := ⟨0, 0, 0⟩
/-- Texts that can be read. -/
def Txs (w : World) (a : Option Addr) (l : List ByteArray) : Prop := l ≠ [] → ∃ b o, a = some ⟨b, o, none⟩ ∧ ∀ i, i < l.length → w.cell? ⟨b, o + i, none⟩ = some (.string (l.getD i ByteArray.empty))
theorem Txs.at {w : World} {a : Option Addr} {l : List ByteArray} (h : Txs w a l) {i : Nat} (hi : i < l.length) : ∃ b o, a = some ⟨b, o, none⟩ ∧ ∀ i, i < l.length → w.cell? ⟨b, o + i, none⟩ = some (.string (l.getD i ByteArray.empty)) := h (by rintro rfl; simp at hi)
/-- Gaps that can be read. -/
def Gps (w : World) (a : Option Addr) (l : List GapM) : Prop := l ≠ [] → ∃ b o, a = some ⟨b, o, none⟩ ∧ ∀ i, i < l.length → w.cell? ⟨b, o + i * 3, none⟩ = some (.int .i64 (l.getD i .zero).num) ∧ w.cell? ⟨b, o + i * 3 + 1, none⟩ = some (.int .i64 (l.getD i .zero).frm) ∧ w.cell? ⟨b, o + i * 3 + 2, none⟩ = some (.int .i64 (l.getD i .zero).til)
/-- It lies in new memory. -/
def NewAt (n : Nat) (a : Option Addr) : Prop := ∀ x, a = some x → n ≤ x.block
def NotIn (F : List Nat) (a : Option Addr) : Prop := ∀ x, a = some x → x.block ∉ F
def Grown (n : Nat) (F F' : List Nat) : Prop := ∀ x ∈ F', x ∈ F ∨ n ≤ x
theorem keptCellQ {S : List Nat} {w w' : World} (hk : Kept S w w') {a : Addr} {v : Value} (h : w.cell? a = some v) (hn : a.block ∉ S) : w'.cell? a = some v := (World.cell?_of_block (hk.block a.block (World.block_lt_of_cell? w a h) hn)).trans h
theorem Txs.kept {w w' : World} {a : Option Addr} {l : List ByteArray} {S : List Nat} (h : Txs w a l) (hk : Kept S w w') (hn : NotIn S a) : Txs w' a l := by
  intro hne
  obtain ⟨b, o, rfl, hC⟩ := h hne
  exact ⟨b, o, rfl, fun i hi => keptCellQ hk (hC i hi) (hn ⟨b, o, none⟩ rfl)⟩
theorem Gps.kept {w w' : World} {a : Option Addr} {l : List GapM} {S : List Nat} (h : Gps w a l) (hk : Kept S w w') (hn : NotIn S a) : Gps w' a l := by
  intro hne
  obtain ⟨b, o, rfl, hC⟩ := h hne
  exact ⟨b, o, rfl, fun i hi => ⟨keptCellQ hk (hC i hi).1 (hn ⟨b, o, none⟩ rfl), keptCellQ hk (hC i hi).2.1 (hn ⟨b, o, none⟩ rfl), keptCellQ hk (hC i hi).2.2 (hn ⟨b, o, none⟩ rfl)⟩⟩
theorem NewAt.notIn {n : Nat} {a : Option Addr} {F : List Nat} (h : NewAt n a) (hF : ∀ x ∈ F, x < n) : NotIn F a := fun x e hx => by
  have h1 := h x e
  have h2 := hF _ hx
  omega
/-- How many units, at the most, a law speaks of. -/
def manyU : Nat := 70368744177664
/-- How long, at the most, a text is. -/
def manyB : Nat := 140737488355328
/-- A sender and a receiver lie at p, in the blocks F. -/
structure RepLaws (Snd : World → Addr → List Nat → OutM → Prop) (Rcv : World → Addr → List Nat → InM → Prop) : Prop where
  slt : ∀ {w p F m}, Snd w p F m → ∀ x ∈ F, x < w.heap.size
  rlt : ∀ {w p F r}, Rcv w p F r → ∀ x ∈ F, x < w.heap.size
  skept : ∀ {w w' p F m T}, Snd w p F m → Kept T w w' → (∀ x ∈ F, x ∉ T) → Snd w' p F m
  rkept : ∀ {w w' p F r T}, Rcv w p F r → Kept T w w' → (∀ x ∈ F, x ∉ T) → Rcv w' p F r
  snew : ∀ (k : Int) (w : World), 1 ≤ k → k ≤ 32 → Calls Try.prog 12 #[.int .i64 k] w fun e w' => ∃ p F, e = .returned (.tuple #[.pointer (some p), .int .i64 0]) ∧ Snd w' p F (OutM.new k.toNat) ∧ (∀ x ∈ F, w.heap.size ≤ x) ∧ Below w.heap.size w w'
  snewBad : ∀ (k : Int) (w : World), k < 1 ∨ 32 < k → Calls Try.prog 12 #[.int .i64 k] w fun e w' => e = .returned (.tuple #[.pointer none, .int .i64 1]) ∧ Below w.heap.size w w'
  rnew : ∀ (k : Int) (w : World), 1 ≤ k → k ≤ 32 → Calls Try.prog 13 #[.int .i64 k] w fun e w' => ∃ p F, e = .returned (.tuple #[.pointer (some p), .int .i64 0]) ∧ Rcv w' p F (InM.new k.toNat) ∧ (∀ x ∈ F, w.heap.size ≤ x) ∧ Below w.heap.size w w'
  rnewBad : ∀ (k : Int) (w : World), k < 1 ∨ 32 < k → Calls Try.prog 13 #[.int .i64 k] w fun e w' => e = .returned (.tuple #[.pointer none, .int .i64 1]) ∧ Below w.heap.size w w'
  submit : ∀ {w p F m} (s : ByteArray), Snd w p F m → m.n < manyU → s.size ≤ manyB → Calls Try.prog 14 #[.pointer (some p), .string s] w fun e w' => e = .returned (.int .i64 (m.submit s).err) ∧ Kept F w w' ∧ ∃ F', Snd w' p F' (m.submit s).m ∧ Grown w.heap.size F F'
  next : ∀ {w p F m} (size : Int), Snd w p F m → m.n ≤ manyU → Calls Try.prog 16 #[.pointer (some p), .int .i64 size] w fun e w' => e = .returned (.tuple #[(m.next size).p.val, .int .i64 (m.next size).err]) ∧ Kept F w w' ∧ ∃ F', Snd w' p F' (m.next size).m ∧ Grown w.heap.size F F'
  take : ∀ {w p F m} (r : ReportM) (a : Option Addr) (n c : Nat), Snd w p F m → m.n ≤ manyU → Gps w a r.miss → NotIn F a → r.miss.length = n → n ≤ maxLen → Calls Try.prog 22 #[.pointer (some p), .agg #[.int .i64 r.next, .slice a n c]] w fun e w' => e = .returned (.int .i64 (m.take r).err) ∧ Kept F w w' ∧ ∃ F', Snd w' p F' (m.take r).m ∧ Grown w.heap.size F F'
  wait : ∀ {w p F m}, Snd w p F m → m.n ≤ manyU → Calls Try.prog 24 #[.pointer (some p)] w fun e w' => e = .returned (.int .i64 (m.wait : Nat)) ∧ Kept F w w' ∧ ∃ F', Snd w' p F' m ∧ Grown w.heap.size F F'
  rtake : ∀ {w p F r} (x : PieceM), Rcv w p F r → r.fst ≤ manyU → x.data.size ≤ manyB → Calls Try.prog 18 #[.pointer (some p), x.val] w fun e w' => ∃ a n c, e = .returned (.tuple #[.slice a n c, .int .i64 (r.take x).err]) ∧ Txs w' a (r.take x).out ∧ (r.take x).out.length = n ∧ NewAt w.heap.size a ∧ Kept F w w' ∧ ∃ F', Rcv w' p F' (r.take x).m ∧ Grown w.heap.size F F' ∧ NotIn F' a
  report : ∀ {w p F r}, Rcv w p F r → r.fst ≤ manyU → Calls Try.prog 27 #[.pointer (some p)] w fun e w' => ∃ a n c, e = .returned (.agg #[.int .i64 r.report.next, .slice a n c]) ∧ Gps w' a r.report.miss ∧ r.report.miss.length = n ∧ n ≤ maxLen ∧ NewAt w.heap.size a ∧ Kept F w w' ∧ ∃ F', Rcv w' p F' r ∧ Grown w.heap.size F F' ∧ NotIn F' a
end Go.Proofs.Ytbjgfoiikhbonaf
namespace Go.Proofs.Ytbjgfoiikhbonaf
open Go.ChangeShapes Go.WideShapes Go.ChangeAt Go.RowKit
theorem drop_take_getD {l : List ByteArray} {a k i : Nat} (hi : i < k) : ((l.drop a).take k).getD i ByteArray.empty = l.getD (a + i) ByteArray.empty := by
  simp only [List.getD_eq_getElem?_getD]
  rw [List.getElem?_take_of_lt hi, List.getElem?_drop]
set_option maxRecDepth 100000 in
set_option maxHeartbeats 4000000 in
theorem come_any {Snd : World → Addr → List Nat → OutM → Prop} {Rcv : World → Addr → List Nat → InM → Prop} (L : RepLaws Snd Rcv) {w : World} {p : Addr} {F : List Nat} {r : InM} {texts : List ByteArray} (x : PieceM) (rb tb sb : Nat) (asl : Option Addr) (ns cs : Nat)
    (hR : Rcv w p F r) (hf : r.fst ≤ manyU) (hx : x.data.size ≤ manyB) (c1 : w.cell? ⟨rb, 0, none⟩ = some (.pointer (some p))) (hA : ArrAt .i64 3 w tb [(r.fst : Int)]) (c3 : w.cell? ⟨sb, 0, none⟩ = some (.slice asl ns cs)) (hT : Txs w asl texts) (hns : texts.length = ns) (hns2 : ns ≤ manyU)
    (n1 : tb ∉ F) (n3 : sb ∉ F) (n4 : NotIn F asl) (n5 : tb ≠ sb) (n6 : NotIn [tb] asl) (hl : ∀ x, asl = some x → x.block < w.heap.size)
    (hout : (r.take x).out = (texts.drop r.fst).take ((r.take x).m.fst - r.fst)) (h1 : r.fst ≤ (r.take x).m.fst) (h2 : (r.take x).m.fst ≤ texts.length) :
    Calls Try.prog 28 #[x.val, .pointer (some ⟨rb, 0, none⟩), .pointer (some ⟨tb, 0, none⟩), .pointer (some ⟨sb, 0, none⟩)] w fun e w' => e = .returned (.bool true) ∧ Kept (tb :: F) w w' ∧ (∃ F', Rcv w' p F' (r.take x).m ∧ Grown w.heap.size F F') ∧ ArrAt .i64 3 w' tb [((r.take x).m.fst : Int)] := by
  have hlen : (r.take x).out.length = (r.take x).m.fst - r.fst := by
    rw [hout, List.length_take, List.length_drop]; omega
  have hget : ∀ i, i < (r.take x).m.fst - r.fst → (r.take x).out.getD i ByteArray.empty = texts.getD (r.fst + i) ByteArray.empty := fun i hi => by
    rw [hout]; exact drop_take_getD hi
  have c2 : w.cell? ⟨tb, 0, none⟩ = some (.int .i64 (r.fst : Int)) := hA.cell (by simp)
  have l1 := World.block_lt_of_cell? w _ c1
  have l2 : tb < w.heap.size := hA.lt
  have l3 := World.block_lt_of_cell? w _ c3
  have hbox : Below w.heap.size w (w.alloc (.cells #[.int .i64 x.num, .int .i64 x.frm, .bool x.last, .string x.data] 64)) := (Below.refl _ w).alloc (Nat.le_refl _) _
  have hsz : (w.alloc (.cells #[.int .i64 x.num, .int .i64 x.frm, .bool x.last, .string x.data] 64)).heap.size = w.heap.size + 1 := by simp
  have k1 := (World.cell?_of_block (hbox.block _ l1)).trans c1
  have hR1 : Rcv (w.alloc (.cells #[.int .i64 x.num, .int .i64 x.frm, .bool x.last, .string x.data] 64)) p F r := L.rkept hR (Kept.of_below (S := []) hbox) (by simp)
  have hRT := L.rtake x hR1 hf hx
  unfold PieceM.val at hRT ⊢
  generalize (r.take x).out = out at *
  generalize (r.take x).m = r' at *
  generalize (r.take x).err = er at *
  have HL := hid hlen
  have HG := hid hget
  have HN := hid hns
  have HT := hid hT
  clear hlen hget hns hout hT hx
  go_enter Try.func28, Try.ntmps28
  go_wp2_with (go_at_call 18; refine hRT.mono ?_; rintro e w1 ⟨a, n, c, rfl, hX, hn, hN, hK, F', hR', hG, hNI⟩)
  have HX := hid hX
  have HN2 := hid hn
  have hKw : Kept (tb :: F) w w1 := (Kept.of_below hbox).trans (hK.wider fun z hz => List.mem_cons_of_mem _ hz)
  have hA1 : ArrAt .i64 3 w1 tb [(r.fst : Int)] := (hA.below hbox l2).kept hK n1
  have c31 : w1.cell? ⟨sb, 0, none⟩ = some (.slice asl ns cs) := keptCellQ (hK) ((World.cell?_of_block (hbox.block _ l3)).trans c3) n3
  have hT1 : Txs w1 asl texts := (HT.out.kept (Kept.of_below (S := []) hbox) (by intro _ _; simp)).kept hK n4
  have n7 : NotIn F' asl := fun z e hz => by
    rcases hG _ hz with h | h
    · exact n4 z e h
    · have := hl z e; rw [hsz] at h; omega
  have n8 : tb ∉ F' := fun hz => by
    rcases hG _ hz with h | h
    · exact n1 h
    · rw [hsz] at h; omega
  have n9 : NotIn [tb] a := fun z e hz => by
    have h := hN z e
    rw [hsz] at h
    have : z.block = tb := by simpa using hz
    omega
  have hG' : Grown w.heap.size F F' := fun z hz => by
    rcases hG z hz with h | h
    · exact Or.inl h
    · right; rw [hsz] at h; omega
  clear hX hn hRT hR1 hK hN hbox hsz k1 c1 c2 c3 hA l1 l3 hR hG
  have HT1 := hid hT1
  clear HT hT1
  have hn' : n ≤ manyU := by rw [← HN2.out, HL.out]; rw [HN.out] at h2; omega
  have hq1 : n = r'.fst - r.fst := by rw [← HN2.out]; exact HL.out
  have hq2 : r'.fst ≤ ns := by rw [HN.out] at h2; exact h2
  unfold manyU at hn' hns2
  have HQ1 := hid hq1
  have HQ2 := hid hq2
  clear hq1 hq2
  go_loopw [8] (fun vi wr => ∃ i : Nat, i ≤ n ∧ vi = .int .i64 i ∧ ArrAt .i64 3 wr tb [((r.fst + i : Nat) : Int)] ∧ Kept [tb] w1 wr) (fun vi _ => n - (intOf vi).toNat)
  case atStart => exact ⟨0, by omega, rfl, hA1, Kept.refl _ _⟩
  case round =>
    obtain ⟨i, hi, rfl, hAi, hKi⟩ := hrel
    by_cases hlt : i < n
    · obtain ⟨b, o, rfl, hC⟩ := HX.out.at (i := i) (by rw [HN2.out]; exact hlt)
      have q1 := keptCellQ hKi (hC i (by rw [HN2.out]; exact hlt)) (n9 ⟨b, o, none⟩ rfl)
      obtain ⟨b2, o2, rfl, hC2⟩ := HT1.out.at (i := r.fst + i) (by rw [HN.out]; have := HQ1.out; have := HQ2.out; omega)
      have q2 := keptCellQ hKi (hC2 (r.fst + i) (by rw [HN.out]; have := HQ1.out; have := HQ2.out; omega)) (n6 ⟨b2, o2, none⟩ rfl)
      rw [HG.out i (by have := HQ1.out; omega)] at q1
      have q3 := keptCellQ hKi c31 (by simpa using n5.symm)
      have q4 : wr.cell? ⟨tb, 0, none⟩ = some (.int .i64 ((r.fst + i : Nat) : Int)) := hAi.cell (by simp)
      have q5 : wr.frozen? ⟨tb, 0, none⟩ = false := hAi.free 0
      have hset : ArrAt .i64 3 (wr.setCell ⟨tb, 0, none⟩ (.int .i64 ((r.fst + i + 1 : Nat) : Int))) tb [((r.fst + i + 1 : Nat) : Int)] := hAi.set 0 _
      have hks : Kept [tb] w1 (wr.setCell ⟨tb, 0, none⟩ (.int .i64 ((r.fst + i + 1 : Nat) : Int))) := hKi.setCell (by simp) _
      generalize texts.getD (r.fst + i) ByteArray.empty = tx at *
      obtain ⟨u, eu⟩ : ∃ u, u = r.fst + i := ⟨_, rfl⟩
      have hu : u < ns := by have := HQ1.out; have := HQ2.out; omega
      rw [← eu] at q2 q4 hset hks
      have HEU := hid eu
      have HAI := hid hAi
      clear eu hAi
      have x1 : decide ((ns : Int) ≤ (u : Int)) = false := decide_eq_false (by omega)
      clear hC hC2
      go_wp2_with fail
      go_quiet (fail)
      go_wp2_with fail
      have e : ((u : Int) + 1) = ((r.fst + (i + 1) : Nat) : Int) := by have := HEU.out; omega
      rw [e]
      exact ⟨⟨i + 1, by omega, by go_num, ArrAt.set (L := [((r.fst + i : Nat) : Int)]) (show ArrAt .i64 3 (wr.drewN nq) tb _ from HAI.out) 0 _, (hKi.drewN nq).setCell (by simp) _⟩, by simp [intOf]; omega⟩
    · go_wp2_with fail
      go_ret
      have ei : i = n := by omega
      have e : ((r.fst + i : Nat) : Int) = (r'.fst : Int) := by have := HQ1.out; omega
      rw [e] at hAi
      exact ⟨rfl, hKw.trans (hKi.wider (by simp)), ⟨F', L.rkept hR' hKi (fun z hz => by simp; rintro rfl; exact n8 hz), hG'⟩, hAi⟩
end Go.Proofs.Ytbjgfoiikhbonaf
namespace Go.Proofs.Ytbjgfoiikhbonaf
open Go.ChangeShapes Go.WideShapes Go.ChangeAt Go.RowKit
theorem Grown.out {F F' : List Nat} {n x : Nat} (h : Grown n F F') (hx : x ∉ F) (hl : x < n) : x ∉ F' := fun e => by
  rcases h x e with g | g
  · exact hx g
  · omega
theorem Grown.outA {F F' : List Nat} {n : Nat} {a : Option Addr} (h : Grown n F F') (hx : NotIn F a) (hl : ∀ x, a = some x → x.block < n) : NotIn F' a := fun x e => h.out (hx x e) (hl x e)
theorem Grown.low {B : Nat} {F F' : List Nat} {n : Nat} (h : Grown n F F') (hb : ∀ x ∈ F, B ≤ x) (hl : B ≤ n) : ∀ x ∈ F', B ≤ x := fun x hx => by
  rcases h x hx with g | g
  · exact hb x g
  · omega
structure Cl (Snd : World → Addr → List Nat → OutM → Prop) (Rcv : World → Addr → List Nat → InM → Prop) (p q : Addr) (rb tb sb : Nat) (asl : Option Addr) (ns cs : Nat) (texts : List ByteArray) (B : Nat) (w0 w : World) (F G : List Nat) (m : OutM) (r : InM) : Prop where
  snd : Snd w p F m
  rcv : Rcv w q G r
  pair : Pair m r
  text : m.text = texts
  c1 : w.cell? ⟨rb, 0, none⟩ = some (.pointer (some q))
  tl : ArrAt .i64 3 w tb [(r.fst : Int)]
  c3 : w.cell? ⟨sb, 0, none⟩ = some (.slice asl ns cs)
  tx : Txs w asl texts
  fg : ∀ x ∈ F, x ∉ G
  ft : tb ∉ F
  gt : tb ∉ G
  fr : rb ∉ F
  gr : rb ∉ G
  fs : sb ∉ F
  gs : sb ∉ G
  fa : NotIn F asl
  ga : NotIn G asl
  ts : tb ≠ sb
  tr : tb ≠ rb
  ta : NotIn [tb] asl
  al : ∀ x, asl = some x → x.block < w.heap.size
  bf : ∀ x ∈ F, B ≤ x
  bg : ∀ x ∈ G, B ≤ x
  bt : B ≤ tb
  bw : B ≤ w.heap.size
  bel : Below B w0 w
theorem Cl.lr {Snd : World → Addr → List Nat → OutM → Prop} {Rcv : World → Addr → List Nat → InM → Prop} {p q : Addr} {rb tb sb : Nat} {asl : Option Addr} {ns cs : Nat} {texts : List ByteArray} {B : Nat} {w0 w : World} {F G : List Nat} {m : OutM} {r : InM} (h : Cl Snd Rcv p q rb tb sb asl ns cs texts B w0 w F G m r) : rb < w.heap.size := World.block_lt_of_cell? w _ h.c1
theorem Cl.lt {Snd : World → Addr → List Nat → OutM → Prop} {Rcv : World → Addr → List Nat → InM → Prop} {p q : Addr} {rb tb sb : Nat} {asl : Option Addr} {ns cs : Nat} {texts : List ByteArray} {B : Nat} {w0 w : World} {F G : List Nat} {m : OutM} {r : InM} (h : Cl Snd Rcv p q rb tb sb asl ns cs texts B w0 w F G m r) : tb < w.heap.size := h.tl.lt
theorem Cl.ls {Snd : World → Addr → List Nat → OutM → Prop} {Rcv : World → Addr → List Nat → InM → Prop} {p q : Addr} {rb tb sb : Nat} {asl : Option Addr} {ns cs : Nat} {texts : List ByteArray} {B : Nat} {w0 w : World} {F G : List Nat} {m : OutM} {r : InM} (h : Cl Snd Rcv p q rb tb sb asl ns cs texts B w0 w F G m r) : sb < w.heap.size := World.block_lt_of_cell? w _ h.c3
/-- The sender did something. -/
theorem Cl.sends {Snd : World → Addr → List Nat → OutM → Prop} {Rcv : World → Addr → List Nat → InM → Prop} {p q : Addr} {rb tb sb : Nat} {asl : Option Addr} {ns cs : Nat} {texts : List ByteArray} {B : Nat} {w0 w w' : World} {F F' G : List Nat} {m m' : OutM} {r : InM} (L : RepLaws Snd Rcv) (h : Cl Snd Rcv p q rb tb sb asl ns cs texts B w0 w F G m r) (hk : Kept F w w') (hs : Snd w' p F' m') (hg : Grown w.heap.size F F') (hp : Pair m' r) (ht : m'.text = m.text) : Cl Snd Rcv p q rb tb sb asl ns cs texts B w0 w' F' G m' r := by
  have hl := hk.size
  refine ⟨hs, L.rkept h.rcv hk (fun x hx e => h.fg x e hx), hp, ht.trans h.text, keptCellQ hk h.c1 h.fr, h.tl.kept hk h.ft, keptCellQ hk h.c3 h.fs, h.tx.kept hk h.fa, ?_, hg.out h.ft h.lt, h.gt, hg.out h.fr h.lr, h.gr, hg.out h.fs h.ls, h.gs, hg.outA h.fa h.al, h.ga, h.ts, h.tr, h.ta, fun x e => Nat.lt_of_lt_of_le (h.al x e) hl, hg.low h.bf h.bw, h.bg, h.bt, Nat.le_trans h.bw hl, h.bel.trans (hk.below h.bw h.bf)⟩
  intro x hx hx2
  rcases hg x hx with g | g
  · exact h.fg x g hx2
  · have := L.rlt h.rcv x hx2
    omega
/-- The receiver did something. -/
theorem Cl.takes {Snd : World → Addr → List Nat → OutM → Prop} {Rcv : World → Addr → List Nat → InM → Prop} {p q : Addr} {rb tb sb : Nat} {asl : Option Addr} {ns cs : Nat} {texts : List ByteArray} {B : Nat} {w0 w w' : World} {F G G' : List Nat} {m : OutM} {r r' : InM} (L : RepLaws Snd Rcv) (h : Cl Snd Rcv p q rb tb sb asl ns cs texts B w0 w F G m r) (hk : Kept (tb :: G) w w') (hr : Rcv w' q G' r') (hg : Grown w.heap.size G G') (ht : ArrAt .i64 3 w' tb [(r'.fst : Int)]) (hp : Pair m r') : Cl Snd Rcv p q rb tb sb asl ns cs texts B w0 w' F G' m r' := by
  have hl := hk.size
  have hn : ∀ x, x ≠ tb → x ∉ G → x ∉ tb :: G := fun x h1 h2 e => by
    rcases List.mem_cons.mp e with e | e
    · exact h1 e
    · exact h2 e
  refine ⟨L.skept h.snd hk (fun x hx => hn x (fun e => h.ft (e ▸ hx)) (h.fg x hx)), hr, hp, h.text, keptCellQ hk h.c1 (hn rb h.tr.symm h.gr), ht, keptCellQ hk h.c3 (hn sb h.ts.symm h.gs), h.tx.kept hk (fun x e => hn _ (by simpa using h.ta x e) (h.ga x e)), ?_, h.ft, hg.out h.gt h.lt, h.fr, hg.out h.gr h.lr, h.fs, hg.out h.gs h.ls, h.fa, hg.outA h.ga h.al, h.ts, h.tr, h.ta, fun x e => Nat.lt_of_lt_of_le (h.al x e) hl, h.bf, hg.low h.bg h.bw, h.bt, Nat.le_trans h.bw hl, h.bel.trans (hk.below h.bw ?_)⟩
  · intro x hx hx2
    rcases hg x hx2 with g | g
    · exact h.fg x hx g
    · have := L.slt h.snd x hx
      omega
  · intro x hx
    rcases List.mem_cons.mp hx with rfl | hx
    · exact h.bt
    · exact h.bg x hx
theorem Cl.tells {Snd : World → Addr → List Nat → OutM → Prop} {Rcv : World → Addr → List Nat → InM → Prop} {p q : Addr} {rb tb sb : Nat} {asl : Option Addr} {ns cs : Nat} {texts : List ByteArray} {B : Nat} {w0 w w' : World} {F G G' : List Nat} {m : OutM} {r : InM} (L : RepLaws Snd Rcv) (h : Cl Snd Rcv p q rb tb sb asl ns cs texts B w0 w F G m r) (hk : Kept G w w') (hr : Rcv w' q G' r) (hg : Grown w.heap.size G G') : Cl Snd Rcv p q rb tb sb asl ns cs texts B w0 w' F G' m r :=
  h.takes L (hk.wider fun _ hx => List.mem_cons_of_mem _ hx) hr hg (h.tl.kept hk h.gt) h.pair
theorem Cl.mem {Snd : World → Addr → List Nat → OutM → Prop} {Rcv : World → Addr → List Nat → InM → Prop} {p q : Addr} {rb tb sb : Nat} {asl : Option Addr} {ns cs : Nat} {texts : List ByteArray} {B : Nat} {w0 w w' : World} {F G : List Nat} {m : OutM} {r : InM} (L : RepLaws Snd Rcv) (h : Cl Snd Rcv p q rb tb sb asl ns cs texts B w0 w F G m r) (hb : Below w.heap.size w w') : Cl Snd Rcv p q rb tb sb asl ns cs texts B w0 w' F G m r :=
  h.tells L (Kept.of_below hb) (L.rkept h.rcv (Kept.of_below (S := []) hb) (by simp)) (fun _ hx => Or.inl hx)
/-- A piece comes. -/
theorem Cl.come {Snd : World → Addr → List Nat → OutM → Prop} {Rcv : World → Addr → List Nat → InM → Prop} {p q : Addr} {rb tb sb : Nat} {asl : Option Addr} {ns cs : Nat} {texts : List ByteArray} {B : Nat} {w0 w : World} {F G : List Nat} {m : OutM} {r : InM} (L : RepLaws Snd Rcv) (h : Cl Snd Rcv p q rb tb sb asl ns cs texts B w0 w F G m r) (hns : texts.length = ns) (h50 : ns ≤ 50) {u : Nat} {x : PieceM} (hk : Known m u x) (hf : r.fst ≤ u + 32) :
    Calls Try.prog 28 #[x.val, .pointer (some ⟨rb, 0, none⟩), .pointer (some ⟨tb, 0, none⟩), .pointer (some ⟨sb, 0, none⟩)] w fun e w' => e = .returned (.bool true) ∧ Kept (tb :: G) w w' ∧ ∃ G', Grown w.heap.size G G' ∧ Cl Snd Rcv p q rb tb sb asl ns cs texts B w0 w' F G' m (r.take x).m := by
  obtain ⟨h1, _, _, h4, h5⟩ := h.pair.come hk hf
  obtain ⟨a, b, rfl, _, hbs, hun, _⟩ := id hk
  have hsz := h.pair.size u hun
  have hup := h1.up
  have hup0 := h.pair.up
  have hn : m.n = ns := by unfold OutM.n; rw [h.text]; exact hns
  have hdata : (m.piece u a b).data.size ≤ manyB := by
    show ((m.t u).extract a b).size ≤ manyB
    rw [ByteArray.size_extract]
    have : b ≤ (m.t u).size := hbs
    have : (m.t u).size ≤ 1500 := hsz.2
    unfold manyB
    omega
  refine (come_any L (m.piece u a b) rb tb sb asl ns cs h.rcv (by unfold manyU; omega) hdata h.c1 h.tl h.c3 h.tx hns (by unfold manyU; omega) h.gt h.gs h.ga h.ts h.ta h.al (by rw [← h.text]; exact h5) h4 (by rw [hns, ← hn]; exact hup)).mono ?_
  rintro e w1 ⟨rfl, hk1, ⟨G', hr1, hg1⟩, ht1⟩
  exact ⟨rfl, hk1, G', hg1, h.takes L hk1 hr1 hg1 ht1 h1⟩
end Go.Proofs.Ytbjgfoiikhbonaf
