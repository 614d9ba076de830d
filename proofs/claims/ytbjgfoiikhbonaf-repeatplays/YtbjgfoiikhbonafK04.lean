import Derived.Test.YtbjgfoiikhbonafK03
import Derived.Test.YtbjgfoiikhbonafK01
import Derived.Laws.BytesArg
import Derived.Laws.BytesString
set_option linter.unusedVariables false
set_option linter.unusedSimpArgs false
namespace Go.Proofs.Ytbjgfoiikhbonaf
theorem Pair.new {w : Nat} (h1 : 1 ≤ w) (h2 : w ≤ 32) : Pair (OutM.new w) (InM.new w) := by
  refine ⟨rfl, h1, h2, fun u hu => absurd hu (Nat.not_lt_zero u), Nat.le_refl _, Nat.le_refl _, Nat.zero_le _, fun _ _ => Nat.zero_le _, fun _ _ h => absurd rfl h, fun _ _ h => absurd rfl h, fun _ _ h => absurd rfl h, fun _ _ h => absurd rfl h, fun _ _ _ h => ?_, fun _ _ h => ?_, fun _ _ h => absurd rfl h, fun _ => Or.inl rfl, fun u hu => absurd hu (Nat.not_lt_zero u), fun _ _ h => absurd rfl h, Or.inl rfl, fun u hu => absurd hu (Nat.not_lt_zero u), ?_, fun _ h => ?_, fun u hu => absurd hu (Nat.not_lt_zero u)⟩
  · cases h
  · cases h
  · rintro ⟨n, h, _⟩
    cases h
  · cases h
theorem submit_cases (m : OutM) (s : ByteArray) : ((m.submit s).err ≠ 0 ∧ (m.submit s).m = m) ∨ ((m.submit s).err = 0 ∧ (m.submit s).m = { m with text := m.text ++ [s] } ∧ 1 ≤ s.size ∧ s.size ≤ 1500) := by
  unfold OutM.submit
  split
  · left; simp
  · split
    · left; simp
    · split
      · left; simp
      · right; exact ⟨rfl, rfl, by omega, by omega⟩
theorem Pair.submit {m : OutM} {r : InM} (h : Pair m r) (s : ByteArray) : Pair (m.submit s).m r := by
  rcases submit_cases m s with ⟨_, e⟩ | ⟨_, e, s1, s2⟩
  · rw [e]; exact h
  rw [e]
  have hn : ({ m with text := m.text ++ [s] } : OutM).n = m.n + 1 := by
    show (m.text ++ [s]).length = m.text.length + 1
    rw [List.length_append]; rfl
  have ht : ∀ u, u < m.n → ({ m with text := m.text ++ [s] } : OutM).t u = m.t u := by
    intro u hu
    show (m.text ++ [s]).getD u _ = m.text.getD u _
    rw [List.getD_eq_getElem?_getD, List.getD_eq_getElem?_getD, List.getElem?_append_left hu]
  have htn : ({ m with text := m.text ++ [s] } : OutM).t m.n = s := by
    show (m.text ++ [s]).getD m.text.length _ = s
    rw [List.getD_eq_getElem?_getD, List.getElem?_append_right (Nat.le_refl _)]
    simp
  have hz : ∀ u, u < m.n → ({ m with text := m.text ++ [s] } : OutM).sz u = m.sz u := fun u hu => by
    unfold OutM.sz; rw [ht u hu]
  refine ⟨h.win, h.w1, h.w32, ?_, h.lo, ?_, h.fw, h.two, ?_, h.pre, ?_, h.inw, ?_, ?_, h.finA, h.finB, ?_, h.hiA, h.hiB, h.told, h.stop, h.dn, h.bdn⟩
  · intro u hu
    rw [hn] at hu
    by_cases e : u = m.n
    · subst e
      unfold OutM.sz
      rw [htn]
      exact ⟨s1, s2⟩
    · rw [hz u (by omega)]
      exact h.size u (by omega)
  · rw [hn]; have := h.up; omega
  · intro u i hm
    obtain ⟨h1, h2⟩ := h.ins u i hm
    rw [hn, hz u h1]
    exact ⟨by omega, h2⟩
  · intro u i hm v hv j hj
    have h1 := (h.ins u i hm).1
    rw [hz v (by omega)] at hj
    exact h.ord u i hm v hv j hj
  · intro u i b hg
    obtain ⟨h1, h2⟩ := h.got u i b hg
    rw [ht u (h.ins u i h1).1]
    exact ⟨h1, h2⟩
  · intro u k hk
    obtain ⟨h1, h2⟩ := h.len u k hk
    rw [hn, hz u h2]
    exact ⟨h1, by omega⟩
  · intro u hu he
    rw [hn] at hu
    by_cases e : u = m.n
    · subst e
      have h1 : r.fin m.n = 0 := by
        rcases h.finB m.n with g | g
        · exact g
        · have := (h.sz_of_got g).1; omega
      unfold OutM.sz at he
      rw [htn] at he
      omega
    · rw [hz u (by omega)] at he ⊢
      exact h.finC u (by omega) he
/-- A piece comes. -/
theorem Pair.come {m : OutM} {r : InM} (h : Pair m r) {u : Nat} {p : PieceM} (hk : Known m u p) (hf : r.fst ≤ u + 32) : Pair m (r.take p).m ∧ (∀ v i, r.got v i ≠ none → (r.take p).m.got v i ≠ none) ∧ (∀ i, p.a ≤ i → i < p.b → (r.take p).m.got u i ≠ none) ∧ r.fst ≤ (r.take p).m.fst ∧ (r.take p).out = (m.text.drop r.fst).take ((r.take p).m.fst - r.fst) := by
  obtain ⟨a, b, rfl, hab, hbs, hun, hm⟩ := hk
  have hsz := h.size u hun
  have hw := h.inw u a (hm a (Nat.le_refl _) hab)
  have hlo := h.lo
  have esz : (m.piece u a b).data.size = b - a := by
    show ((m.t u).extract a b).size = b - a
    rw [ByteArray.size_extract]
    have : b ≤ (m.t u).size := hbs
    omega
  have ea : (m.piece u a b).a = a := by unfold PieceM.a OutM.piece; simp
  have eb : (m.piece u a b).b = b := by
    unfold PieceM.b
    rw [esz]
    show ((a : Nat) : Int).toNat + (b - a) = b
    omega
  have hbad : (m.piece u a b).bad = false := by
    unfold PieceM.bad
    rw [esz]
    show decide (((u % 64 : Nat) : Int) < 0 ∨ 63 < ((u % 64 : Nat) : Int) ∨ ((a : Nat) : Int) < 0 ∨ 1500 < ((a : Nat) : Int) ∨ 1500 < ((a : Nat) : Int) + ((b - a : Nat) : Int) ∨ b - a = 0) = false
    simp only [decide_eq_false_iff_not]
    omega
  have hnum : (m.piece u a b).num = ((u % 64 : Nat) : Int) := rfl
  by_cases hu : r.fst ≤ u
  · have hd : aheadN ((u % 64 : Nat) : Int) r.fst = u - r.fst := aheadN_fwd hu (by have := h.w32; omega)
    have hcl : r.clash u (m.piece u a b) = false := by
      have hfin := h.fin_le u
      unfold InM.clash
      rw [eb]
      have hl : (m.piece u a b).last = decide (b = m.sz u) := rfl
      rw [hl, Bool.or_eq_false_iff]
      constructor
      · cases e : r.len u with
        | none => rfl
        | some k =>
          have := (h.len u k e).1
          simp only [Bool.or_eq_false_iff, Bool.and_eq_false_iff, decide_eq_false_iff_not, bne_eq_false_iff_eq]
          omega
      · simp only [Bool.and_eq_false_iff, decide_eq_false_iff_not]
        omega
    have ht : r.take (m.piece u a b) = (r.put u (m.piece u a b)).tell := by
      unfold InM.take
      rw [hbad, hnum, hd, show r.fst + (u - r.fst) = u by omega, hcl, if_neg (by simp), if_neg (by have := h.win; omega), if_neg (by simp)]
    rw [ht, ea, eb]
    exact h.put hab hbs hun hm hu rfl
  · have hd := aheadN_back (fst := r.fst) (u := u) (by omega) hf
    have ht : r.take (m.piece u a b) = ⟨r, [], 8⟩ := by
      unfold InM.take
      rw [hbad, hnum, if_neg (by simp), if_pos (by have := h.win; have := h.w32; omega)]
    rw [ht, ea, eb]
    refine ⟨h, fun _ _ g => g, ?_, Nat.le_refl _, ?_⟩
    · intro i _ g2
      exact ((h.whole_mark (h.told u (by omega))).2 i (by omega)).1
    · simp
def sumR (f : Nat → Nat) : Nat → Nat
  | 0 => 0
  | n + 1 => sumR f n + f n
theorem sumR_le {f g : Nat → Nat} {n : Nat} (h : ∀ i, i < n → f i ≤ g i) : sumR f n ≤ sumR g n := by
  induction n with
  | zero => exact Nat.le_refl _
  | succ n ih =>
    have h1 := ih fun i hi => h i (by omega)
    have h2 := h n (by omega)
    unfold sumR
    omega
theorem sumR_lt {f g : Nat → Nat} {n k : Nat} (h : ∀ i, i < n → f i ≤ g i) (hk : k < n) (hl : f k < g k) : sumR f n < sumR g n := by
  induction n with
  | zero => omega
  | succ n ih =>
    unfold sumR
    by_cases e : k = n
    · subst e
      have h1 := sumR_le (f := f) (g := g) (n := k) fun i hi => h i (by omega)
      omega
    · have h1 := ih (fun i hi => h i (by omega)) (by omega)
      have h2 := h n (by omega)
      omega
def OutM.cost (m : OutM) : Nat := sumR (fun u => sumR (fun i => if m.mark u i = 1 then 0 else 1) (m.sz u)) m.n
theorem cost_sent {m : OutM} {k u a b : Nat} (hk : k ≠ 1) (h : Goes m k u a b) : (m.sent u a b).cost < m.cost := by
  have hs : ∀ v i, (m.sent u a b).mark v i = if v = u ∧ a ≤ i ∧ i < b then 1 else m.mark v i := fun _ _ => rfl
  have hab := h.ab
  have hbs := h.bs
  have hle : ∀ v i, (if (m.sent u a b).mark v i = 1 then 0 else 1) ≤ (if m.mark v i = 1 then 0 else 1) := by
    intro v i
    rw [hs]
    by_cases e : v = u ∧ a ≤ i ∧ i < b
    · rw [if_pos e]; simp
    · rw [if_neg e]; exact Nat.le_refl _
  refine sumR_lt (k := u) ?_ h.n ?_
  · intro v _
    exact sumR_le fun i _ => hle v i
  · refine sumR_lt (k := a) (fun i _ => hle u i) (by show a < m.sz u; omega) ?_
    show (if (m.sent u a b).mark u a = 1 then 0 else 1) < (if m.mark u a = 1 then 0 else 1)
    have e : (m.sent u a b).mark u a = 1 := by rw [hs]; exact if_pos ⟨rfl, Nat.le_refl _, hab⟩
    rw [e, h.is a (Nat.le_refl _) hab, if_neg hk, if_pos rfl]
    omega
/-- What 'Next' answers. -/
structure Sends (m : OutM) (r : InM) (x : OutP) (u : Nat) : Prop where
  err : x.err = 0
  text : x.m.text = m.text
  pair : Pair x.m r
  beg : x.m.beg = m.beg
  win : x.m.win = m.win
  lo : m.beg ≤ u
  up : u < m.beg + m.win
  num : x.p.num = ((u % 64 : Nat) : Int)
  known : Known x.m u x.p
  old : ∀ v p, Known m v p → Known x.m v p
  cost : x.m.cost < m.cost
  ne : x.p.data.size ≠ 0
  one : ∀ v i, x.m.mark v i = 1 → m.mark v i = 1 ∨ (v = u ∧ x.p.a ≤ i ∧ i < x.p.b)
theorem Pair.send {m : OutM} {r : InM} (h : Pair m r) {k size : Nat} (hk : k = 0 ∨ k = 2) (hs : 1 ≤ size) (hw : m.who k < m.edge k) : Sends m r (m.send k (m.who k) size) (m.who k) := by
  have hg := goes_of hs hw
  have hup : m.who k < m.beg + m.win := by
    rcases hk with rfl | rfl
    · unfold OutM.edge at hw
      rw [if_neg (by omega)] at hw
      omega
    · exact h.inw _ _ (by rw [hg.is _ (Nat.le_refl _) hg.ab]; omega)
  have hp := h.sent hk hg hup (by
    rintro rfl v h1 h2 h3 j hj
    have h4 := firstIn_not (p := m.can 0) h1 h2
    unfold OutM.can at h4
    rw [h3] at h4
    simp only [Bool.not_false, Bool.or_true, Bool.and_true, decide_eq_false_iff_not] at h4
    have h5 := firstIn_not (p := fun i => m.mark v i == 0) (lo := 0) (hi := m.sz v) (k := j) (Nat.zero_le _) (by
      have : m.sz v ≤ m.hit 0 v := by omega
      unfold OutM.hit at this
      omega)
    simpa using h5)
  have hab := hg.ab
  have hbs : m.cut k (m.who k) size ≤ (m.t (m.who k)).size := hg.bs
  have esz : (m.piece (m.who k) (m.hit k (m.who k)) (m.cut k (m.who k) size)).data.size = m.cut k (m.who k) size - m.hit k (m.who k) := by
    show ((m.t (m.who k)).extract (m.hit k (m.who k)) (m.cut k (m.who k) size)).size = _
    rw [ByteArray.size_extract]
    omega
  have ea : (m.piece (m.who k) (m.hit k (m.who k)) (m.cut k (m.who k) size)).a = m.hit k (m.who k) := by unfold PieceM.a OutM.piece; simp
  have eb : (m.piece (m.who k) (m.hit k (m.who k)) (m.cut k (m.who k) size)).b = m.cut k (m.who k) size := by
    unfold PieceM.b
    rw [esz]
    show ((m.hit k (m.who k) : Nat) : Int).toNat + _ = _
    omega
  refine ⟨rfl, rfl, hp, rfl, rfl, hg.beg, hup, rfl, Known.new hg, fun v p hv => Known.sent hv, cost_sent (by omega) hg, ?_, ?_⟩
  · show (m.piece (m.who k) (m.hit k (m.who k)) (m.cut k (m.who k) size)).data.size ≠ 0
    rw [esz]
    omega
  · intro v i hm
    show m.mark v i = 1 ∨ (v = m.who k ∧ (m.piece (m.who k) (m.hit k (m.who k)) (m.cut k (m.who k) size)).a ≤ i ∧ i < (m.piece (m.who k) (m.hit k (m.who k)) (m.cut k (m.who k) size)).b)
    rw [ea, eb]
    change (if v = m.who k ∧ m.hit k (m.who k) ≤ i ∧ i < m.cut k (m.who k) size then 1 else m.mark v i) = 1 at hm
    split at hm
    · right; assumption
    · exact Or.inl hm
theorem Pair.next {m : OutM} {r : InM} (h : Pair m r) {size : Int} (h1 : 1 ≤ size) (h2 : size ≤ 1500) : (∃ u, Sends m r (m.next size) u) ∨ (m.next size = ⟨m, .zero, 6⟩ ∧ m.edge 2 ≤ m.who 2 ∧ m.edge 0 ≤ m.who 0) := by
  unfold OutM.next
  rw [if_neg (by omega)]
  by_cases e2 : m.who 2 < m.edge 2
  · rw [if_pos e2]
    exact Or.inl ⟨_, h.send (Or.inr rfl) (by omega) e2⟩
  · rw [if_neg e2]
    by_cases e0 : m.who 0 < m.edge 0
    · rw [if_pos e0]
      exact Or.inl ⟨_, h.send (Or.inl rfl) (by omega) e0⟩
    · rw [if_neg e0]
      exact Or.inr ⟨rfl, by omega, by omega⟩
/-- All that was sent came: then all within the window is told. -/
theorem Pair.all {m : OutM} {r : InM} (h : Pair m r) (hf : Fresh m r) (h2 : m.edge 2 ≤ m.who 2) (h0 : m.edge 0 ≤ m.who 0) : m.n ≤ r.fst ∨ m.beg + m.win ≤ r.fst := by
  apply Classical.byContradiction
  intro hc
  have hlo := h.lo
  have hn : r.fst < m.n := by omega
  have e2 : m.edge 2 = m.n := rfl
  have e0 : m.edge 0 = min m.n (m.beg + m.win) := rfl
  have hd : m.done r.fst = false := by
    cases e : m.done r.fst with
    | false => rfl
    | true => exact absurd (h.dn _ e) h.stop
  have c2 : m.can 2 r.fst = false := firstIn_not (p := m.can 2) (hi := m.edge 2) hlo (by unfold OutM.who at h2; omega)
  have c0 : m.can 0 r.fst = false := firstIn_not (p := m.can 0) (hi := m.edge 0) hlo (by unfold OutM.who at h0; omega)
  unfold OutM.can at c2 c0
  rw [hd] at c0
  simp only [Bool.not_false, Bool.or_true, Bool.and_true, decide_eq_false_iff_not, BEq.rfl, Bool.true_or] at c2 c0
  have hm : ∀ i, i < m.sz r.fst → m.mark r.fst i = 1 := by
    intro i hi
    have g2 := firstIn_not (p := fun i => m.mark r.fst i == 2) (lo := 0) (hi := m.sz r.fst) (k := i) (Nat.zero_le _) (by
      unfold OutM.hit at c2; omega)
    have g0 := firstIn_not (p := fun i => m.mark r.fst i == 0) (lo := 0) (hi := m.sz r.fst) (k := i) (Nat.zero_le _) (by
      unfold OutM.hit at c0; omega)
    have g3 := h.two r.fst i
    simp only [beq_eq_false_iff_ne] at g2 g0
    omega
  have hs := h.size r.fst hn
  have hg : ∀ i, i < m.sz r.fst → r.got r.fst i ≠ none := fun i hi => hf _ _ (hm i hi)
  have hfin : r.fin r.fst = m.sz r.fst := by
    have g1 := h.fin_le r.fst
    have g2 := h.finA r.fst (m.sz r.fst - 1) (hg _ (by omega))
    omega
  exact h.stop ⟨m.sz r.fst, h.finC _ hn hfin, hg⟩
theorem Fresh.come {m : OutM} {r r' : InM} {x : OutP} {u : Nat} (hf : Fresh m r) (hs : Sends m r x u) (h1 : ∀ v i, r.got v i ≠ none → r'.got v i ≠ none) (h2 : ∀ i, x.p.a ≤ i → i < x.p.b → r'.got u i ≠ none) : Fresh x.m r' := by
  intro v i hm
  rcases hs.one v i hm with g | ⟨rfl, g1, g2⟩
  · exact h1 v i (hf v i g)
  · exact h2 i g1 g2
/-- All is told: nothing waits behind the last report. -/
theorem Pair.none {m : OutM} {r : InM} (h : Pair m r) (hn : r.fst = m.n) : (m.taken (r.nxt - m.beg) r.report.miss).wait = 0 := by
  unfold OutM.wait
  rw [List.length_eq_zero_iff, List.filter_eq_nil_iff]
  intro u hu
  have hu : u < m.n := List.mem_range.mp hu
  have h1 : (m.taken (r.nxt - m.beg) r.report.miss).done u = true := h.done2_told (by omega)
  rw [h1]
  simp
end Go.Proofs.Ytbjgfoiikhbonaf
namespace Go.Proofs.Ytbjgfoiikhbonaf
open Go.RowKit
/-- Every number a byte. -/
def Bytes (zs : List Int) : Prop := ∀ n ∈ zs, 0 ≤ n ∧ n ≤ 255
/-- Only 0 and 1 up to place k. -/
def Okay (zs : List Int) (k : Nat) : Prop := ∀ j, j < k → zs.getD j 0 ≤ 1
theorem Bytes.at {zs : List Int} (h : Bytes zs) (k : Nat) : 0 ≤ zs.getD k 0 ∧ zs.getD k 0 ≤ 255 := by
  by_cases hk : k < zs.length
  · have : zs.getD k 0 = zs[k] := by simp [List.getD, hk]
    rw [this]; exact h _ (List.getElem_mem hk)
  · have : zs.getD k 0 = 0 := by simp [List.getD, Nat.le_of_not_lt hk]
    rw [this]; omega
theorem Okay.succ {zs : List Int} {k : Nat} (h : Okay zs k) (e : zs.getD k 0 ≤ 1) : Okay zs (k + 1) := fun j hj => by
  by_cases hjk : j = k
  · subst hjk; exact e
  · exact h j (by omega)
end Go.Proofs.Ytbjgfoiikhbonaf
namespace Go.Proofs.Ytbjgfoiikhbonaf
open Go.ChangeShapes Go.WideShapes Go.ChangeAt Go.RowKit
theorem Try.info5 : (Try.prog.info? 5).map (fun i => (i.zero, i.size, i.bytes)) = some (some (.int .u8 0), 1, 1) := by kernel_rfl
/-- A list of bytes in memory of one's own. -/
def Own (w : World) (B : Nat) (v : Value) (L : List Int) : Prop := w.ownsRow B 5 1 v L.length (L.map (Value.int .u8))
theorem Own.nil (w : World) (B : Nat) : Own w B (.slice none 0 0) [] := World.ownsRow_nil _ _ _ _
theorem Own.snoc {w : World} {B : Nat} {v : Value} {L : List Int} {x : Int} (h : w.ownsRow B 5 1 v (L.length + 1) (L.map (Value.int .u8) ++ [.int .u8 x])) : Own w B v (L ++ [x]) := by
  unfold Own
  rw [List.length_append, List.map_append]
  exact h
theorem own_blocks {w : World} {B : Nat} {v : Value} {L : List Int} (h : Own w B v L) : ∀ k, v.ownBlock = some k → B ≤ k := fun k hk => (h.lt k hk).1
/-- 'out = append(out, y)', out a list of bytes of one's own. -/
theorem wpList_push {ops : Array Oper} {rest : List Oper} {o : Oper} {a : Act} {Q : Exit → Act → World → Prop} {w0 : World} {v : Value} {L : List Int} (B : Nat) (w00 : World) (y : Int) (hown : Own w0 B v L) (hgd : o.guard = none) (s x : Operand)
    (ho : o.op = .call { callee := .builtin .append, args := #[s, x], argTypes := #[108, 108] }) (hs : a.eval s = v)
    (hx : a.eval x = .slice (some ⟨w0.heap.size, 0, none⟩) 1 1) (hlen : L.length < 70368744177664) (hbel : Below B w00 w0) (hB : B ≤ w0.heap.size)
    (h : ∀ v' w', Own w' B v' (L ++ [y]) → Below B w00 w' → wpList Try.prog ops Q rest (a.put o.dst v') w') : wpList Try.prog ops Q (o :: rest) a (w0.alloc (.cells #[.int .u8 y] 5)) := by
  obtain ⟨i0, hi, hz0, hz1, hz2⟩ := info_parts Try.info5
  refine wpList_append_own _ hgd s x 108 ho B 5 i0 (.int .u8 0) 1 1 Try.underlying108 hi hz0 hz1 hz2 rfl (by decide) v _ _ hs (World.ownsRow.alloc hown _) ⟨w0.heap.size, 0, none⟩ 1 1 [.int .u8 y] hx rfl (cell_one_new _ _ _) ?_ ?_ ?_ ?_ ?_
  · intro u hu; simp at hu; subst hu; rfl
  · unfold maxLen; omega
  · omega
  · simp; omega
  · intro v' w' h1 h2 _
    exact h v' w' (Own.snoc h1) ((hbel.alloc hB _).grown h2 (by simp; omega) (own_blocks hown))
theorem Own.cell {w : World} {B g N c : Nat} {L : List Int} (h : Own w B (.slice (some ⟨g, 0, none⟩) N c) L) {i : Nat} (hi : i < L.length) : w.cell? ⟨g, i, none⟩ = some (.int .u8 (L.getD i 0)) := by
  obtain ⟨b, off, e, hc⟩ := (Rd.own (k := .u8) h) (by intro e; subst e; simp at hi)
  simp only [Option.some.injEq, Addr.mk.injEq, and_true] at e
  obtain ⟨rfl, rfl⟩ := e
  have := hc i hi
  rwa [Nat.zero_add] at this
theorem Own.len {w : World} {B g N c : Nat} {L : List Int} (h : Own w B (.slice (some ⟨g, 0, none⟩) N c) L) : L.length = N := by
  rcases h.2 with ⟨h', _⟩ | ⟨g', cap, cur, h', _⟩
  · simp at h'
  · simp only [Value.slice.injEq] at h'
    exact h'.2.1.symm
theorem Own.block {w : World} {B g N c : Nat} {L : List Int} (h : Own w B (.slice (some ⟨g, 0, none⟩) N c) L) : B ≤ g ∧ g < w.heap.size := h.lt g rfl
theorem Own.free {w : World} {B g N c : Nat} {L : List Int} (h : Own w B (.slice (some ⟨g, 0, none⟩) N c) L) (i : Nat) : w.frozen? ⟨g, i, none⟩ = false := by
  have e := h.len
  unfold Own at h
  rw [e] at h
  exact h.frozenAt i
theorem Own.set {w : World} {B g N c : Nat} {L : List Int} (h : Own w B (.slice (some ⟨g, 0, none⟩) N c) L) (i : Nat) (x : Int) : Own (w.setCell ⟨g, i, none⟩ (.int .u8 x)) B (.slice (some ⟨g, 0, none⟩) N c) (L.set i x) := by
  have e := h.len
  unfold Own at h ⊢
  rw [List.length_set, e, List.map_set]
  rw [e] at h
  exact (h.stored i _).1
theorem Own.drew {w : World} {B : Nat} {v : Value} {L : List Int} (h : Own w B v L) : Own w.drew B v L := h
theorem Own.rd {w : World} {B n c : Nat} {a : Option Addr} {L : List Int} (h : Own w B (.slice a n c) L) : Rd .u8 w a L := Rd.own h
theorem Own.shape {w : World} {B : Nat} {v : Value} {L : List Int} (h : Own w B v L) : ∃ a c, v = .slice a L.length c ∧ (L ≠ [] → ∃ g, a = some ⟨g, 0, none⟩) ∧ L.length ≤ c ∧ c ≤ maxLen := by
  rcases h.2 with ⟨h', h0⟩ | ⟨g, cap, cur, h', _, _, h1, h2, _⟩
  · refine ⟨none, 0, by rw [h', h0], fun hne => absurd (List.eq_nil_of_length_eq_zero h0) hne, by omega, by unfold maxLen; omega⟩
  · exact ⟨some ⟨g, 0, none⟩, cap, h', fun _ => ⟨g, rfl⟩, h1, h2⟩
theorem Own.below {w w' : World} {B : Nat} {v : Value} {L : List Int} (h : Own w B v L) (hb : Below w.heap.size w w') : Own w' B v L := by
  refine ⟨h.1, ?_⟩
  rcases h.2 with h' | ⟨g, cap, cur, h1, h2, h3, h4⟩
  · exact .inl h'
  · have hlt : g < w.heap.size := by
      rcases Nat.lt_or_ge g w.heap.size with hl | hl
      · exact hl
      · rw [Array.getElem?_eq_none hl] at h3; cases h3
    exact .inr ⟨g, cap, cur, h1, h2, (hb.block g hlt).trans h3, h4⟩
theorem Own.mono {w : World} {B B' : Nat} {v : Value} {L : List Int} (h : Own w B v L) (hB : B' ≤ B) : Own w B' v L := by
  refine ⟨h.1, ?_⟩
  rcases h.2 with h' | ⟨g, cap, cur, h1, h2, h3⟩
  · exact .inl h'
  · exact .inr ⟨g, cap, cur, h1, by omega, h3⟩
/-- 'string(v)', v a list of bytes that can be read. -/
theorem conv_rd {w : World} {a : Option Addr} {L : List Int} (h : Rd .u8 w a L) (c : Nat) : (convert 108 9 (.slice a L.length c)).run Try.prog w = .ok (.string (strOfNums L)) w := by
  cases L with
  | nil =>
    rw [run_convert_bytes_string w 108 9 5 a ([] : List Int).length c Try.underlying108 Try.underlying5 Try.underlying9]
    cases a with
    | none => simp [Conv.bytesToString, strOfNums]; rfl
    | some x => exact (run_bytesToString w x 0 c [] (by simp [loadCells]; rfl)).trans (by simp [strOfNums]; rfl)
  | cons y L =>
    obtain ⟨b, off, rfl, hc⟩ := h (by simp)
    exact run_convert_bytes_arg w 108 5 Try.underlying108 Try.underlying5 b off _ c _ rfl hc 9 Try.underlying9
end Go.Proofs.Ytbjgfoiikhbonaf
namespace Go.Proofs.Ytbjgfoiikhbonaf
open Go.ChangeShapes Go.WideShapes Go.ChangeAt Go.RowKit
/-- Numbers that fill a block. -/
def ArrAt (k : IntKind) (T : TypeId) (w : World) (g : Nat) (L : List Int) : Prop := w.heap[g]? = some (.cells (L.map (Value.int k)).toArray T (0, 0))
theorem ArrAt.cell {k : IntKind} {T : TypeId} {w : World} {g : Nat} {L : List Int} (h : ArrAt k T w g L) {j : Nat} (hj : j < L.length) : w.cell? ⟨g, j, none⟩ = some (.int k (L.getD j 0)) := by
  rw [cell_of_row w g j _ T (0, 0) h]
  simp [List.getD, hj]
theorem ArrAt.free {k : IntKind} {T : TypeId} {w : World} {g : Nat} {L : List Int} (h : ArrAt k T w g L) (j : Nat) : w.frozen? ⟨g, j, none⟩ = false := frozen_of_row w g j _ T h
theorem ArrAt.set {k : IntKind} {T : TypeId} {w : World} {g : Nat} {L : List Int} (h : ArrAt k T w g L) (j : Nat) (x : Int) : ArrAt k T (w.setCell ⟨g, j, none⟩ (.int k x)) g (L.set j x) := by
  unfold ArrAt
  rw [heap_setCell_same w g j _ T _ h, List.map_set]
  simp
theorem ArrAt.other {k : IntKind} {T : TypeId} {w : World} {g : Nat} {L : List Int} (h : ArrAt k T w g L) (p : Addr) (v : Value) (hp : g ≠ p.block) : ArrAt k T (w.setCell p v) g L := by
  unfold ArrAt
  rw [heap_setCell_other w p g v hp]
  exact h
theorem ArrAt.below {k : IntKind} {T : TypeId} {w w' : World} {g B : Nat} {L : List Int} (h : ArrAt k T w g L) (hb : Below B w w') (hg : g < B) : ArrAt k T w' g L := (hb.block g hg).trans h
theorem ArrAt.lt {k : IntKind} {T : TypeId} {w : World} {g : Nat} {L : List Int} (h : ArrAt k T w g L) : g < w.heap.size := by
  rcases Nat.lt_or_ge g w.heap.size with e | e
  · exact e
  · have : w.heap[g]? = none := Array.getElem?_eq_none e
    unfold ArrAt at h
    rw [this] at h; cases h
theorem ArrAt.alloc {k : IntKind} {T : TypeId} {w : World} {g : Nat} {L : List Int} (h : ArrAt k T w g L) (o : Obj) : ArrAt k T (w.alloc o) g L := (Below.heap_alloc w o g h.lt).trans h
theorem ArrAt.rd {k : IntKind} {T : TypeId} {w : World} {g : Nat} {A x Z : List Int} (h : ArrAt k T w g (A ++ x ++ Z)) {o : Nat} (ho : o = A.length) : Rd k w (some ⟨g, o, none⟩) x := by
  subst ho
  intro _
  refine ⟨g, A.length, rfl, fun j hj => ?_⟩
  rw [h.cell (by simp; omega)]
  have e : (A ++ x ++ Z).getD (A.length + j) 0 = x.getD j 0 := by
    unfold List.getD
    rw [List.append_assoc, List.getElem?_append_right (by omega), Nat.add_sub_cancel_left, List.getElem?_append_left hj]
  rw [e]
/-- But for the blocks of S the world is as it was. -/
structure Kept (S : List Nat) (w w' : World) : Prop where
  os : w'.os = w.os
  tape : w'.tape = w.tape
  output : w'.output = w.output
  size : w.heap.size ≤ w'.heap.size
  block : ∀ k, k < w.heap.size → k ∉ S → w'.heap[k]? = w.heap[k]?
theorem Kept.refl (S : List Nat) (w : World) : Kept S w w := ⟨rfl, rfl, rfl, Nat.le_refl _, fun _ _ _ => rfl⟩
theorem Kept.trans {S : List Nat} {a b c : World} (h : Kept S a b) (k : Kept S b c) : Kept S a c :=
  ⟨k.os.trans h.os, k.tape.trans h.tape, k.output.trans h.output, Nat.le_trans h.size k.size, fun i hi hn => (k.block i (Nat.lt_of_lt_of_le hi h.size) hn).trans (h.block i hi hn)⟩
theorem Kept.wider {S S' : List Nat} {a b : World} (h : Kept S a b) (hs : ∀ x ∈ S, x ∈ S') : Kept S' a b := ⟨h.os, h.tape, h.output, h.size, fun i hi hn => h.block i hi (fun e => hn (hs i e))⟩
theorem Kept.drew {S : List Nat} {a w : World} (h : Kept S a w) : Kept S a w.drew := ⟨h.os, h.tape, h.output, h.size, h.block⟩
theorem Kept.drewN {S : List Nat} {a w : World} (h : Kept S a w) (n : Nat) : Kept S a (w.drewN n) := ⟨h.os, h.tape, h.output, h.size, h.block⟩
theorem Kept.setCell {S : List Nat} {a w : World} (h : Kept S a w) {p : Addr} (hp : p.block ∈ S) (u : Value) : Kept S a (w.setCell p u) :=
  h.trans ⟨rfl, rfl, rfl, by simp [World.setCell], fun k _ hk => Below.heap_setCell _ _ _ _ (fun e => hk (e ▸ hp))⟩
theorem Kept.alloc {S : List Nat} {a w : World} (h : Kept S a w) (o : Obj) : Kept S a (w.alloc o) := h.trans ⟨rfl, rfl, rfl, by simp, fun k hk _ => Below.heap_alloc _ _ _ hk⟩
theorem Kept.of_below {S : List Nat} {a b : World} (h : Below a.heap.size a b) : Kept S a b := ⟨h.os, h.tape, h.output, h.size, fun k hk _ => h.block k hk⟩
theorem Kept.below {S : List Nat} {a b : World} (h : Kept S a b) {B : Nat} (hB : B ≤ a.heap.size) (hs : ∀ x ∈ S, B ≤ x) : Below B a b := ⟨h.os, h.tape, h.output, h.size, fun k hk => h.block k (by omega) (fun e => by have := hs k e; omega)⟩
theorem Kept.rd {S : List Nat} {a b : World} (h : Kept S a b) {k : IntKind} {ad : Option Addr} {zs : List Int} (hr : Rd k a ad zs) (hs : ∀ g o, ad = some ⟨g, o, none⟩ → g ∉ S) : Rd k b ad zs := by
  intro hne
  obtain ⟨g, o, rfl, hc⟩ := hr hne
  refine ⟨g, o, rfl, fun j hj => ?_⟩
  have hlt := World.block_lt_of_cell? a _ (hc j hj)
  rw [← hc j hj]
  have := h.block g hlt (hs g o rfl)
  simp only [World.cell?, this]
theorem ArrAt.kept {k : IntKind} {T : TypeId} {S : List Nat} {w w' : World} {g : Nat} {L : List Int} (h : ArrAt k T w g L) (hk : Kept S w w') (hg : g ∉ S) : ArrAt k T w' g L := (hk.block g h.lt hg).trans h
end Go.Proofs.Ytbjgfoiikhbonaf
