import Derived.Test.YtbjgfoiikhbonafK07
import Derived.Test.YtbjgfoiikhbonafK06
import Derived.Laws.CopyOwn
import Derived.Deep.RegionLaw
import Derived.Lib.Overlaps
import Derived.Laws.Externs
import Derived.Deep.Cut
import Derived.BigRegion
set_option linter.unusedVariables false
set_option linter.unusedSimpArgs false
namespace Go.Proofs.Ytbjgfoiikhbonaf
open Go.ChangeShapes Go.WideShapes Go.ChangeAt Go.RowKit
def inOf (win fst : Nat) (ts : List TakenM) : InM := ⟨win, fst, hiL 0 ts, fun u i => atL u i ts, fun u => lenL u none ts, fun u => finL u 0 ts⟩
theorem inOf_new (win : Nat) : inOf win 0 [] = InM.new win := rfl
theorem inOf_put (win fst : Nat) (ts : List TakenM) (u : Nat) (p : PieceM) : (inOf win fst ts).put u p = inOf win fst (ts ++ [⟨u, p⟩]) := by
  have e1 : hiL 0 (ts ++ [⟨u, p⟩]) = max (hiL 0 ts) (u + 1) := hiL_snoc _ _ _
  have e2 : (fun v i => atL v i (ts ++ [⟨u, p⟩])) = fun v i => if v = u ∧ p.a ≤ i ∧ i < p.b ∧ atL v i ts = none then some (p.data.get! (i - p.a)) else atL v i ts := by
    funext v i
    rw [atL_snoc]
    have ht : ((⟨u, p⟩ : TakenM).has v i = true) ↔ (v = u ∧ p.a ≤ i ∧ i < p.b) := by
      unfold TakenM.has
      simp only [Bool.and_eq_true, beq_iff_eq, decide_eq_true_eq]
      exact ⟨fun h => ⟨h.1.symm, h.2⟩, fun h => ⟨h.1.symm, h.2⟩⟩
    cases hg : atL v i ts with
    | some x =>
      have hn : ¬ (v = u ∧ p.a ≤ i ∧ i < p.b ∧ some x = none) := fun h => by cases h.2.2.2
      rw [if_neg hn]
      rfl
    | none =>
      by_cases c : v = u ∧ p.a ≤ i ∧ i < p.b
      · rw [if_pos (ht.2 c), if_pos ⟨c.1, c.2.1, c.2.2, rfl⟩]; rfl
      · rw [if_neg (fun h => c (ht.1 h)), if_neg (fun h => c ⟨h.1, h.2.1, h.2.2.1⟩)]; rfl
  have e3 : (fun v => lenL v none (ts ++ [⟨u, p⟩])) = fun v => if v = u ∧ p.last = true then some p.b else lenL v none ts := by
    funext v
    rw [lenL_snoc]
    by_cases c : v = u
    · subst c; rfl
    · rw [if_neg (fun h => c h.1.symm), if_neg (fun h => c h.1)]
  have e4 : (fun v => finL v 0 (ts ++ [⟨u, p⟩])) = fun v => if v = u then max (finL u 0 ts) p.b else finL v 0 ts := by
    funext v
    rw [finL_snoc]
    by_cases c : v = u
    · subst c; rfl
    · rw [if_neg (fun h => c h.symm), if_neg c]
  unfold inOf InM.put
  rw [e1, e2, e3, e4]
theorem hiL_ge (ts : List TakenM) : ∀ h, h ≤ hiL h ts := by
  induction ts with
  | nil => intro h; exact Nat.le_refl _
  | cons t ts ih => intro h; have := ih (max h (t.u + 1)); unfold hiL; omega
theorem lenL_some {u n : Nat} (ts : List TakenM) : ∀ d h, lenL u d ts = some n → d = some n ∨ (u < hiL h ts ∧ ∃ t ∈ ts, t.u = u ∧ n = t.p.b) := by
  induction ts with
  | nil => intro d h e; exact .inl e
  | cons t ts ih =>
    intro d h e
    unfold lenL at e
    rcases ih _ (max h (t.u + 1)) e with h1 | ⟨h1, t', h2, h3⟩
    · by_cases c : t.u = u ∧ t.p.last = true
      · rw [if_pos c] at h1
        cases h1
        refine .inr ⟨?_, t, List.mem_cons_self, c.1, rfl⟩
        have := hiL_ge ts (max h (t.u + 1))
        unfold hiL
        have := c.1
        omega
      · rw [if_neg c] at h1
        exact .inl h1
    · exact .inr ⟨h1, t', List.mem_cons_of_mem _ h2, h3⟩
theorem lenL_lt {u n : Nat} {ts : List TakenM} (h : lenL u none ts = some n) (hok : ∀ t ∈ ts, t.ok) : u < hiL 0 ts ∧ n ≤ 1500 := by
  rcases lenL_some ts none 0 h with h1 | ⟨h1, t, h2, -, h4⟩
  · cases h1
  · have := hok t h2
    have h5 := this.b
    have := this.2.1
    exact ⟨h1, by omega⟩
theorem wholeR_lt {win fst u : Nat} {ts : List TakenM} (h : (inOf win fst ts).whole u = true) : u < hiL 0 ts := by
  unfold InM.whole at h
  split at h
  · cases h
  · rename_i n hn
    have hn : lenL u none ts = some n := hn
    rcases lenL_some ts none 0 hn with h1 | ⟨h1, -⟩
    · cases h1
    · exact h1
theorem uptoR_eq {win fst k : Nat} {ts : List TakenM} (h1 : ∀ j, j < k → (inOf win fst ts).whole (fst + j) = true) (h2 : (inOf win fst ts).whole (fst + k) = false) : (inOf win fst ts).upto = fst + k := by
  unfold InM.upto
  have hle : fst + k ≤ max fst (hiL 0 ts) := by
    cases k with
    | zero => omega
    | succ k =>
      have := wholeR_lt (h1 k (by omega))
      omega
  refine firstIn_eq (by show fst ≤ _; omega) hle (fun j a b => ?_) (fun _ => by simp [h2])
  have a : fst ≤ j := a
  have h3 := h1 (j - fst) (by omega)
  rw [show fst + (j - fst) = j by omega] at h3
  simp [h3]
theorem wholeR_none {win fst u : Nat} {ts : List TakenM} (h : lenL u none ts = none) : (inOf win fst ts).whole u = false := by
  unfold InM.whole
  have e : (inOf win fst ts).len u = none := h
  rw [e]
theorem wholeR_gap {win fst u n i : Nat} {ts : List TakenM} (h : lenL u none ts = some n) (hi : i < n) (hg : atL u i ts = none) : (inOf win fst ts).whole u = false := by
  unfold InM.whole
  have e : (inOf win fst ts).len u = some n := h
  rw [e]
  show (firstIn (fun i => (atL u i ts).isNone) 0 n == n) = false
  rw [beq_eq_false_iff_ne]
  have := firstIn_lt (p := fun i => (atL u i ts).isNone) (lo := 0) (hi := n) (k := i) (Nat.zero_le _) (by simp [hg])
  omega
theorem wholeR_all {win fst u n : Nat} {ts : List TakenM} (h : lenL u none ts = some n) (hg : ∀ i, i < n → (atL u i ts).isSome = true) : (inOf win fst ts).whole u = true := by
  unfold InM.whole
  have e : (inOf win fst ts).len u = some n := h
  rw [e]
  show (firstIn (fun i => (atL u i ts).isNone) 0 n == n) = true
  rw [beq_iff_eq]
  refine firstIn_none (Nat.zero_le _) fun k _ hk => ?_
  have := hg k hk
  cases hx : atL u k ts with
  | none => rw [hx] at this; cases this
  | some x => rfl
theorem textR_eq {win fst u n : Nat} {ts : List TakenM} (h : lenL u none ts = some n) : (inOf win fst ts).textOf u = strOfNums ((List.range n).map fun i => byteO (atL u i ts)) := by
  unfold InM.textOf strOfNums
  have e : (inOf win fst ts).len u = some n := h
  rw [e]
  congr 2
  rw [List.map_map]
  refine List.map_congr_left fun i _ => ?_
  show (atL u i ts).getD 0 = UInt8.ofNat (byteO (atL u i ts)).toNat
  cases atL u i ts with
  | none => rfl
  | some x => simp [byteO]
/-- What is told, one unit after the other. -/
def toldR (win fst : Nat) (ts : List TakenM) (k : Nat) : List ByteArray := (List.range k).map fun i => (inOf win fst ts).textOf (fst + i)
theorem toldR_succ (win fst : Nat) (ts : List TakenM) (k : Nat) : toldR win fst ts (k + 1) = toldR win fst ts k ++ [(inOf win fst ts).textOf (fst + k)] := by
  unfold toldR
  rw [List.range_succ, List.map_append]
  rfl
theorem tellR_eq {win fst k : Nat} {ts : List TakenM} (h1 : ∀ j, j < k → (inOf win fst ts).whole (fst + j) = true) (h2 : (inOf win fst ts).whole (fst + k) = false) : (inOf win fst ts).tell = ⟨inOf win (fst + k) ts, toldR win fst ts k, 0⟩ := by
  have e := uptoR_eq h1 h2
  unfold InM.tell
  rw [e]
  have e2 : fst + k - (inOf win fst ts).fst = k := by show fst + k - fst = k; omega
  rw [e2]
  rfl
/-- The rounds from i on, k of them, with a gap that has begun at f. -/
def goR (p : Nat → Bool) (e : Nat) : Nat → Nat → Option Nat → List (Nat × Nat)
  | 0, _, _ => []
  | k + 1, i, none => goR p e k (i + 1) (if p i = true ∧ i < e then some i else none)
  | k + 1, i, some a => if p i = false ∨ i = e then (a, i) :: goR p e k (i + 1) (if p i = true ∧ i < e then some i else none) else goR p e k (i + 1) (some a)
theorem firstIn_here {p : Nat → Bool} {lo hi : Nat} (h : lo < hi) (hp : p lo = true) : firstIn p lo hi = lo := firstIn_eq (Nat.le_refl _) (by omega) (fun j a b => absurd b (by omega)) (fun _ => hp)
theorem firstIn_next {p : Nat → Bool} {lo hi : Nat} (h : lo < hi) (hp : p lo = false) : firstIn p lo hi = firstIn p (lo + 1) hi := by
  have h1 := firstIn_ge p (lo + 1) hi
  have h2 := firstIn_le p (show lo + 1 ≤ hi by omega)
  refine firstIn_eq (by omega) h2 (fun j a b => ?_) (fun hlt => firstIn_at hlt)
  by_cases e : j = lo
  · rw [e]; exact hp
  · exact firstIn_not (by omega) b
theorem runsN_end (p : Nat → Bool) (e f : Nat) : runsN p e f e = [] := by
  cases f with
  | zero => rfl
  | succ f =>
    unfold runsN
    rw [if_neg (by have := firstIn_le p (Nat.le_refl e); have := firstIn_ge p e e; omega)]
theorem runsN_next {p : Nat → Bool} {e f i : Nat} (h : i < e) (hp : p i = false) : runsN p e f i = runsN p e f (i + 1) := by
  cases f with
  | zero => rfl
  | succ f =>
    unfold runsN
    rw [firstIn_next h hp]
theorem goR_runs (p : Nat → Bool) (e : Nat) : ∀ k i, i + k = e + 1 → 1 ≤ k → (∀ f, k ≤ f → goR p e k i none = runsN p e f i) ∧ (∀ f a, k ≤ f → goR p e k i (some a) = (a, firstIn (fun j => !p j) i e) :: runsN p e f (firstIn (fun j => !p j) i e)) := by
  intro k
  induction k with
  | zero => intro i _ h; omega
  | succ k ih =>
    intro i hi _
    by_cases hie : i = e
    · subst hie
      have hk : k = 0 := by omega
      subst hk
      have hz : firstIn (fun j => !p j) i i = i := firstIn_none (Nat.le_refl _) (fun j a b => absurd b (by omega))
      refine ⟨fun f _ => ?_, fun f a _ => ?_⟩
      · rw [runsN_end]; rfl
      · rw [hz, runsN_end]
        unfold goR
        rw [if_pos (.inr rfl)]
        rfl
    · have hlt : i < e := by omega
      obtain ⟨ih1, ih2⟩ := ih (i + 1) (by omega) (by omega)
      cases hp : p i with
      | true =>
        have hq : firstIn (fun j => !p j) i e = firstIn (fun j => !p j) (i + 1) e := firstIn_next hlt (by simp [hp])
        refine ⟨fun f hf => ?_, fun f a hf => ?_⟩
        · obtain ⟨f, rfl⟩ : ∃ g, f = g + 1 := ⟨f - 1, by omega⟩
          unfold goR runsN
          rw [if_pos ⟨hp, hlt⟩, firstIn_here hlt hp, if_pos hlt, hq]
          exact ih2 f i (by omega)
        · unfold goR
          rw [if_neg (by rw [hp]; simp; omega), hq]
          exact ih2 f a (by omega)
      | false =>
        have hq : firstIn (fun j => !p j) i e = i := firstIn_here hlt (by simp [hp])
        refine ⟨fun f hf => ?_, fun f a hf => ?_⟩
        · unfold goR
          rw [if_neg (by rw [hp]; simp), runsN_next hlt hp]
          exact ih1 f (by omega)
        · unfold goR
          rw [if_pos (.inl hp), if_neg (by rw [hp]; simp), hq, runsN_next hlt hp]
          congr 1
          exact ih1 f (by omega)
def gapR (u : Nat) (q : Nat × Nat) : GapM := ⟨((u % 64 : Nat) : Int), q.1, q.2⟩
/-- All gaps of the first k units. -/
def gapsR (r : InM) (k : Nat) : List GapM := (List.range k).flatMap fun i => r.gaps (r.fst + i)
theorem gapsR_succ (r : InM) (k : Nat) : gapsR r (k + 1) = gapsR r k ++ r.gaps (r.fst + k) := by
  unfold gapsR
  rw [List.range_succ, List.flatMap_append]
  simp
theorem gapsM_eqR (r : InM) (u : Nat) : r.gaps u = (goR (fun i => (r.got u i).isNone) (r.ends u) (r.ends u + 1) 0 none).map (gapR u) ++ (match r.len u with
    | none => [⟨((u % 64 : Nat) : Int), r.ends u, -1⟩]
    | some _ => []) := by
  unfold InM.gaps
  rw [((goR_runs (fun i => (r.got u i).isNone) (r.ends u) (r.ends u + 1) 0 (by omega) (by omega)).1 (r.ends u + 1) (Nat.le_refl _))]
  rfl
end Go.Proofs.Ytbjgfoiikhbonaf
namespace Go.Proofs.Ytbjgfoiikhbonaf
open Go.ChangeShapes Go.WideShapes Go.ChangeAt Go.RowKit
/-- A block's row. -/
def At (w : World) (b : Nat) (T : TypeId) (cur : List Value) : Prop := w.heap[b]? = some (.cells cur.toArray T (0, 0))
theorem At.lt {w : World} {b : Nat} {T : TypeId} {cur : List Value} (h : At w b T cur) : b < w.heap.size := (Array.getElem?_eq_some_iff.1 h).1
theorem At.set {w : World} {b : Nat} {T : TypeId} {cur new : List Value} (h : At w b T cur) : At (w.setRow b new.toArray) b T new := setRow_heap w b _ _ T _ h
theorem At.other {w : World} {b g : Nat} {T : TypeId} {cur : List Value} (h : At w b T cur) (hne : b ≠ g) (x : Array Value) : At (w.setRow g x) b T cur := (setRow_other w g b x hne).trans h
theorem At.kept {w w' : World} {b : Nat} {T : TypeId} {cur : List Value} {S : List Nat} (h : At w b T cur) (hk : Kept S w w') (hn : b ∉ S) : At w' b T cur := (hk.block b h.lt hn).trans h
theorem At.cell {w : World} {b : Nat} {T : TypeId} {cur : List Value} (h : At w b T cur) (j : Nat) : w.cell? ⟨b, j, none⟩ = cur[j]? := by
  rw [cell_of_row _ _ _ _ _ _ h]
  simp
theorem At.free {w : World} {b : Nat} {T : TypeId} {cur : List Value} (h : At w b T cur) (j : Nat) : w.frozen? ⟨b, j, none⟩ = false := frozen_of_row w b j _ T h
theorem At.src {w : World} {b : Nat} {T : TypeId} {cur : List Value} (h : At w b T cur) (o : Nat) {cs : List Value} (hc : ∀ j, j < cs.length → cs[j]? = cur[o + j]?) : ∀ j v, cs[j]? = some v → w.cell? ((⟨b, o, none⟩ : Addr).add j) = some v := fun j v hj => by
  have hl := (List.getElem?_eq_some_iff.1 hj).1
  rw [Addr.add_lit, h.cell, ← hc j hl, hj]
theorem kept_setRow (w : World) (b : Nat) (x : Array Value) : Kept [b] w (w.setRow b x) := ⟨rfl, rfl, rfl, by simp [World.setRow], fun k _ hn => setRow_other w b k x (by simpa using hn)⟩
theorem At.row {w : World} {g n c k : Nat} {T : TypeId} {cur xs : List Value} (h : At w g T cur) (hl : xs.length = n * k) (hn : n ≤ c) (hc : c ≤ maxLen) (hs : cur.length = c * k) (ht : cur.take (n * k) = xs) : w.ownsRow 0 T k (.slice (some ⟨g, 0, none⟩) n c) n xs :=
  ⟨hl, .inr ⟨g, c, cur.toArray, rfl, Nat.zero_le _, h, hn, hc, by simpa using hs, by simpa using ht⟩⟩
theorem row_at {w : World} {B g n c k : Nat} {T : TypeId} {xs : List Value} {m : Nat} (h : w.ownsRow B T k (.slice (some ⟨g, 0, none⟩) m c) n xs) : ∃ cur, At w g T cur ∧ m = n ∧ n ≤ c ∧ c ≤ maxLen ∧ cur.length = c * k ∧ cur.take (n * k) = xs ∧ xs.length = n * k := by
  rcases h.2 with ⟨h', _⟩ | ⟨g', cap, cur, h', _, hg, h1, h2, h3, h4⟩
  · simp at h'
  · simp only [Value.slice.injEq, Option.some.injEq, Addr.mk.injEq] at h'
    obtain ⟨⟨rfl, -, -⟩, rfl, rfl⟩ := h'
    refine ⟨cur.toList, ?_, rfl, h1, h2, by simpa using h3, h4, h.1⟩
    unfold At
    rw [Array.toArray_toList]
    exact hg
theorem row_len {w : World} {B n c k : Nat} {T : TypeId} {xs : List Value} {m : Nat} {a : Option Addr} (h : w.ownsRow B T k (.slice a m c) n xs) : m = n := by
  rcases h.2 with ⟨h', h0⟩ | ⟨g', cap, cur, h', _, hg, h1, h2, h3, h4⟩
  · simp only [Value.slice.injEq] at h'
    omega
  · simp only [Value.slice.injEq] at h'
    exact h'.2.1
theorem run_copyK {P : Program} (w : World) (dT sT ty elem tb : TypeId) (k g o dLen dCap : Nat) (a : Addr) (sLen sCap : Nat) (cur cs : List Value)
    (hu : P.underlying dT = some (.slice elem)) (hs : (P.info? elem).map (·.size) = some k)
    (hg : At w g tb cur) (hn : cs.length = Nat.min sLen dLen * k)
    (hsrc : ∀ j v, cs[j]? = some v → w.cell? (a.add j) = some v) (hfit : o + cs.length ≤ cur.length) (h1 : ∀ v ∈ cs, v.oneCell' = true) :
    (Builtin.copy_ #[dT, sT] ty #[.slice (some ⟨g, o, none⟩) dLen dCap, .slice (some a) sLen sCap]).run P w =
      .ok (goInt (Nat.min sLen dLen)) (w.setRow g (splice cur o cs).toArray) := by
  have hl := run_loadCells_list (P := P) w a cs hsrc
  have hst := run_storeCells_at P g o tb cs 0 cur.toArray w hg (by simpa using hfit) h1
  cases hq : P.info? elem with
  | none => simp [hq] at hs
  | some i =>
    have hi : i.size = k := by simpa [hq] using hs
    simp only [Nat.add_zero] at hst
    simp [Builtin.copy_, run_underlying hu, Builtin.lenOf, Builtin.firstCells, sizeOf, typeInfo, hq, hi, ← hn, hl, hst, splice]
theorem run_clearK {P : Program} (w : World) (t e ty tb : TypeId) (i : TypeInfo) (z : Value) (ht : P.underlying t = some (.slice e)) (hi : P.info? e = some i) (hz : i.zero = some z) (g o n c : Nat) (cur : List Value) (hg : At w g tb cur) (hn : 0 < n)
    (hfit : o + n * z.cells.size ≤ cur.length) (h1 : ∀ v ∈ (Builtin.zeroCells z.cells n).toList, v.oneCell' = true) :
    (Builtin.clear_ #[t] ty #[.slice (some ⟨g, o, none⟩) n c]).run P w = .ok (.tuple #[]) (w.setRow g (splice cur o (Builtin.zeroCells z.cells n).toList).toArray) := by
  have hl : (Builtin.zeroCells z.cells n).toList.length = n * z.cells.size := by rw [Array.length_toList, size_zeroCells]
  have hst := run_storeCells_at P g o tb (Builtin.zeroCells z.cells n).toList 0 cur.toArray w hg (by rw [hl]; simpa using hfit) h1
  simp only [Nat.add_zero] at hst
  obtain ⟨m, rfl⟩ : ∃ m, n = m + 1 := ⟨n - 1, by omega⟩
  simp [Builtin.clear_, run_underlying ht, zeroValue, typeInfo, hi, hz, hst, splice]
theorem run_clear0 {P : Program} (w : World) (t e ty : TypeId) (ht : P.underlying t = some (.slice e)) (a : Option Addr) (c : Nat) : (Builtin.clear_ #[t] ty #[.slice a 0 c]).run P w = .ok (.tuple #[]) w := by
  cases a <;> simp [Builtin.clear_, run_underlying ht]
theorem bi_append {P : Program} {w w' : World} {ts : Array TypeId} {ty : TypeId} {args : Array Value} {v : Value} (h : (Builtin.append_ ts ty args).run P w = .ok v w') : ∀ cs, (builtin .append ts ty cs args).run P w = .ok (.value v) w' := fun cs => by simp [builtin, h]
theorem bi_copy {P : Program} {w w' : World} {ts : Array TypeId} {ty : TypeId} {args : Array Value} {v : Value} (h : (Builtin.copy_ ts ty args).run P w = .ok v w') : ∀ cs, (builtin .copy ts ty cs args).run P w = .ok (.value v) w' := fun cs => by simp [builtin, h]
theorem zero_mem {z : Array Value} {n : Nat} {v : Value} (h : v ∈ (Builtin.zeroCells z n).toList) : v ∈ z := by
  simp only [Builtin.zeroCells, Array.toList_map, List.mem_map] at h
  obtain ⟨i, hi, rfl⟩ := h
  have h0 : i < n * z.size := by simpa using hi
  have h1 : 0 < z.size := by
    rcases Nat.eq_zero_or_pos z.size with e | e
    · rw [e] at h0; omega
    · exact e
  have h2 := Nat.mod_lt i h1
  rw [getElem!_pos z _ h2]
  exact Array.getElem_mem h2
theorem wpList_bi2 {P : Program} (w : World) {ops : Array Oper} {rest : List Oper} {o : Oper} {a : Act} {Q : Exit → Act → World → Prop} (hgd : o.guard = none) (bi : Builtin) (s x : Operand) (t tn : TypeId)
    (ho : o.op = .call { callee := .builtin bi, args := #[s, x], argTypes := #[t, tn] }) (vs vx : Value) (hs : a.eval s = vs) (hx : a.eval x = vx) {v' : Value} {w' : World}
    (hr : ∀ cs, (builtin bi #[t, tn] o.type cs #[vs, vx]).run P w = .ok (.value v') w') (h : wpList P ops Q rest (a.put o.dst v') w') : wpList P ops Q (o :: rest) a w := by
  refine wpList_plain hgd fun K hK => ?_
  unfold Oper.wp execOp
  simp only [ho, resolve, invoke, Sem.run_bind, Sem.run_pure, Result.andThen_ok, List.map_toArray, List.map_cons, List.map_nil, hs, hx, hr]
  exact hK _ _ h
theorem step_bi2 {P : Program} {ops : Array Oper} {o : Oper} {a : Act} {w : World} {K : Act → World → Prop} {Q : Exit → Act → World → Prop} {E : Prop} (hgd : o.guard = none) (bi : Builtin) (s x : Operand) (t tn : TypeId)
    (ho : o.op = .call { callee := .builtin bi, args := #[s, x], argTypes := #[t, tn] }) (vs vx : Value) (hs : a.eval s = vs) (hx : a.eval x = vx) {v' : Value} {w' : World}
    (hr : ∀ cs, (builtin bi #[t, tn] o.type cs #[vs, vx]).run P w = .ok (.value v') w') (h : K (a.put o.dst v') w') : if Region.wanted o (yielded ops a.tmps) = true then Oper.wp P o a w K Q else E := by
  have hw : Region.wanted o (yielded ops a.tmps) = true := by simp [Region.wanted, hgd]
  rw [if_pos hw]
  unfold Oper.wp execOp
  simp only [ho, resolve, invoke, Sem.run_bind, Sem.run_pure, Result.andThen_ok, List.map_toArray, List.map_cons, List.map_nil, hs, hx, hr]
  exact h
theorem Try.infoSp : (Try.prog.info? 114).map (fun i => (i.zero, i.size, i.bytes)) = some (some (.agg #[.int .i64 0, .int .i64 0]), 2, 16) := by kernel_rfl
theorem Try.infoTk : (Try.prog.info? 120).map (fun i => (i.zero, i.size, i.bytes)) = some (some (.agg #[.slice none 0 0, .slice none 0 0, .int .i64 0]), 3, 56) := by kernel_rfl
theorem Try.infoSd : (Try.prog.info? 107).map (fun i => (i.zero, i.size, i.bytes)) = some (some (.agg #[.string { data := #[] }, .int .i64 0, .slice none 0 0, .bool false]), 4, 56) := by kernel_rfl
end Go.Proofs.Ytbjgfoiikhbonaf
