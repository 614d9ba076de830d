import Derived.Test.YtmdfjhnibhmdkafTnF
import Derived.Deep.LoopGhost
import Derived.Laws.AppendOwnNone
namespace Go.Proofs.Ytmdfjhnibhmdkaf
open Go.ChangeShapes Go.WideShapes Go.ChangeAt Go.RowKit

/-! THE DOCUMENT'S Slot: users copied; what stands in memory meanwhile. -/

theorem usr_cells {w : World} {b o : Nat} {l : List UsM} (h : ∀ i, i < l.length → w.cell? ⟨b, o + i * 3, none⟩ = some (.int .i64 (l.getD i .zero).who) ∧ w.cell? ⟨b, o + i * 3 + 1, none⟩ = some (.int .i64 (l.getD i .zero).byt) ∧ w.cell? ⟨b, o + i * 3 + 2, none⟩ = some (.int .i64 (l.getD i .zero).fit)) (j : Nat) (u : Value) (hu : (cellsU l)[j]? = some u) : w.cell? ((⟨b, o, none⟩ : Addr).add j) = some u := by
  have hj : j < l.length * 3 := by
    rw [← cellsU_length]
    exact (List.getElem?_eq_some_iff.1 hu).1
  have hi : j / 3 < l.length := by omega
  have hc := cellsU_at l (j / 3) (j % 3) hi (by omega)
  rw [show j / 3 * 3 + j % 3 = j by omega, hu] at hc
  obtain ⟨h0, h1, h2⟩ := h (j / 3) hi
  rw [Addr.add_lit]
  have h3 : j % 3 = 0 ∨ j % 3 = 1 ∨ j % 3 = 2 := by omega
  rcases h3 with e | e | e <;> rw [e] at hc
  · rw [show o + j = o + j / 3 * 3 by omega, h0]; exact hc.symm
  · rw [show o + j = o + j / 3 * 3 + 1 by omega, h1]; exact hc.symm
  · rw [show o + j = o + j / 3 * 3 + 2 by omega, h2]; exact hc.symm
/-- 'append([]User(nil), users...)'. -/
theorem wpList_copyU {ops : Array Oper} {rest : List Oper} {o : Oper} {a : Act} {Q : Exit → Act → World → Prop} {w0 : World} {l : List UsM} {au : Option Addr} {nl c : Nat} (B : Nat) (hU : Usr w0 au l) (hnl : l.length = nl) (hn : nl ≤ 1000) (hnil : au = none → nl = 0 ∧ c = 0) (hgd : o.guard = none) (s x : Operand)
    (ho : o.op = .call { callee := .builtin .append, args := #[s, x], argTypes := #[34, 34] }) (hs : a.eval s = .slice none 0 0) (hx : a.eval x = .slice au nl c) (hB : B ≤ w0.heap.size)
    (h : ∀ v' w', OwnU w' B v' l → w0.grownBy w' none → wpList Try.prog ops Q rest (a.put o.dst v') w') : wpList Try.prog ops Q (o :: rest) a w0 := by
  obtain ⟨i0, hi, hz0, hz1, hz2⟩ := info_parts Try.infoUs
  cases au with
  | none =>
    obtain ⟨rfl, rfl⟩ := hnil rfl
    have hl : l = [] := List.eq_nil_of_length_eq_zero hnl
    subst hl
    exact wpList_append_own_none hgd s x 34 ho B 41 i0 3 Try.underlying34 hi (.slice none 0 0) 0 [] hs (World.ownsRow_nil _ _ _ _) hx (h _ w0 (World.ownsRow_nil _ _ _ _) ⟨rfl, rfl, rfl, Nat.le_refl _, fun _ _ _ => rfl⟩)
  | some ad =>
    refine wpList_append_own _ hgd s x 34 ho B 41 i0 (.agg #[.int .i64 0, .int .i64 0, .int .i64 0]) 3 24 Try.underlying34 hi hz0 hz1 hz2 rfl (by decide) (.slice none 0 0) 0 [] hs (World.ownsRow_nil _ _ _ _) ad nl c (cellsU l) hx (by rw [cellsU_length, hnl]) ?_ ?_ ?_ ?_ hB ?_
    · intro j u hu
      have hne : l ≠ [] := by rintro rfl; simp [cellsU] at hu
      obtain ⟨b, o', e, hc⟩ := hU hne
      simp only [Option.some.injEq] at e
      subst e
      exact usr_cells hc j u hu
    · intro u hu
      unfold cellsU at hu
      obtain ⟨t, _, ht⟩ := List.mem_flatMap.1 hu
      simp [UsM.cells] at ht
      rcases ht with rfl | rfl | rfl <;> rfl
    · unfold maxLen; omega
    · omega
    · intro v' w' h1 h2 _
      refine h v' w' ?_ h2
      unfold OwnU
      rw [hnl]
      simpa using h1
/-- Blocks that are somebody's, then noughts. -/
def fillO (out : List Int) (blocks : Nat) : List Int := out ++ List.replicate (blocks - out.length) 0
theorem fillO_length {out : List Int} {blocks : Nat} (h : out.length ≤ blocks) : (fillO out blocks).length = blocks := by unfold fillO; simp; omega
theorem fillO_set {out : List Int} {blocks : Nat} (h : out.length < blocks) (x : Int) : (fillO out blocks).set out.length x = fillO (out ++ [x]) blocks := by
  unfold fillO
  obtain ⟨m, hm⟩ : ∃ m, blocks - out.length = m + 1 := ⟨blocks - out.length - 1, by omega⟩
  rw [hm, set_fill _ _ m _ rfl]
  simp
  omega
/-- What stands in memory while a Slot is under way. -/
structure SlA (T : TypeId) (w00 w : World) (B r go : Nat) (q : Int) (v : Value) (l : List UsM) (blocks : Nat) (s : SlM) : Prop where
  t : TurnAt T w r q s.last s.opn s.cr
  u : OwnU w B v (curU l s.bw)
  o : ArrAt .i64 3 w go (fillO s.out blocks)
  k : Kept [r] w00 w
structure ApaT (w00 : World) (B r go : Nat) (v : Value) : Prop where
  r1 : r < B
  g1 : B ≤ go
  v1 : v.ownBlock ≠ some go
  b : w00.heap.size = B
theorem ApaT.vr {w00 w : World} {B r go : Nat} {v : Value} {l : List UsM} (h : ApaT w00 B r go v) (hu : OwnU w B v l) : v.ownBlock ≠ some r := fun e => by
  have := (hu.lt r e).1
  have := h.r1
  omega
theorem SlA.drew {T : TypeId} {w00 w : World} {B r go : Nat} {q : Int} {v : Value} {l : List UsM} {blocks : Nat} {s : SlM} (h : SlA T w00 w B r go q v l blocks s) : SlA T w00 w.drew B r go q v l blocks s := ⟨h.t, h.u, h.o, ⟨h.k.1, h.k.2, h.k.3, h.k.4, h.k.5⟩⟩
theorem SlA.setT {T : TypeId} {w00 w : World} {B r go j : Nat} {q : Int} {v x : Value} {l : List UsM} {blocks : Nat} {s s' : SlM} (h : SlA T w00 w B r go q v l blocks s) (hA : ApaT w00 B r go v) (e1 : s'.bw = s.bw) (e2 : s'.out = s.out) (ht : TurnAt T (w.setCell ⟨r, j, none⟩ x) r q s'.last s'.opn s'.cr) : SlA T w00 (w.setCell ⟨r, j, none⟩ x) B r go q v l blocks s' := by
  refine ⟨ht, ?_, ?_, h.k.setCell (by simp) _⟩
  · rw [e1]; exact h.u.other (hA.vr h.u) x
  · rw [e2]; exact h.o.other _ _ (by have := hA.r1; have := hA.g1; show go ≠ r; omega)
/-- Has one of the first so many something that waits? -/
def anyTo (l : List UsM) (bw : Nat → Int) (k : Nat) : Bool := (List.range k).any fun i => decide (0 < bw (l.getD i .zero).who.toNat)
theorem anyTo_succ (l : List UsM) (bw : Nat → Int) (k : Nat) : anyTo l bw (k + 1) = (anyTo l bw k || decide (0 < bw (l.getD k .zero).who.toNat)) := by
  unfold anyTo
  rw [List.range_succ, List.any_append]
  simp
theorem anyTo_all {l : List UsM} (h : OkU l) {bw : Nat → Int} (ho : Only l bw) : anyTo l bw l.length = anyB bw := by
  have h1 := ho.any h
  have h2 : (anyTo l bw l.length = true) ↔ ∃ i, i < l.length ∧ 0 < bw (l.getD i .zero).who.toNat := by
    unfold anyTo
    rw [List.any_eq_true]
    constructor
    · rintro ⟨i, hi, hp⟩
      exact ⟨i, List.mem_range.1 hi, of_decide_eq_true hp⟩
    · rintro ⟨i, hi, hp⟩
      exact ⟨i, List.mem_range.2 hi, decide_eq_true hp⟩
  cases ha : anyB bw with
  | true => exact h2.2 (h1.1 ha)
  | false =>
    cases hb : anyTo l bw l.length with
    | false => rfl
    | true => rw [h1.2 (h2.1 hb)] at ha; cases ha
/-- Credits stay small. -/
def CrB (s : SlM) : Prop := ∀ a, s.cr a < 10000 ∨ (s.opn = true ∧ a = s.last ∧ s.cr a < 20000)
theorem CrB.le {s : SlM} (h : CrB s) (a : Nat) : s.cr a < 20000 := by rcases h a with h | h <;> omega
structure CrV (s : SlM) : Prop where
  own : s.cr s.last < 20000
  low : ∀ a, a ≠ s.last → s.cr a < 10000
theorem CrV.lose {s : SlM} (h : ∀ a, a ≠ s.last → s.cr a < 10000) : CrB s.lose := fun a => by
  left
  show upd s.cr s.last 0 a < 10000
  by_cases e : a = s.last
  · rw [e, upd_at]; omega
  · rw [upd_ne _ _ e]; exact h a e
theorem CrV.serve {fits : Nat → Int} {blocks : Nat} : ∀ (f : Nat) (s : SlM), blocks < f + s.out.length → s.out.length ≤ blocks → (∀ a, 0 ≤ s.bw a) → FitOk fits s.bw → CrV s → CrB (serveM fits blocks f s).leave
  | 0, s, hf, ho, _, _, _ => by omega
  | f + 1, s, hf, ho, hb, hF, h => by
    by_cases hc : 0 < s.bw s.last ∧ fits s.last ≤ s.cr s.last
    · by_cases hof : s.out.length = blocks
      · rw [serve_full hc hof]
        unfold SlM.leave
        have hne : ¬ ({ s with opn := true } : SlM).bw ({ s with opn := true } : SlM).last = 0 := by show ¬ s.bw s.last = 0; omega
        rw [if_neg hne]
        intro a
        by_cases e : a = s.last
        · exact .inr ⟨rfl, e, by rw [e]; exact h.own⟩
        · exact .inl (h.low a e)
      · rw [serve_give hc hof]
        have hfit := hF.pos s.last hc.1
        refine CrV.serve f (s.give fits) ?_ ?_ ?_ (hF.less (give_less s hc.1)) ⟨?_, ?_⟩
        · show blocks < f + (s.out ++ [(s.last : Int)]).length
          simp; omega
        · show (s.out ++ [(s.last : Int)]).length ≤ blocks
          simp; omega
        · intro a
          show 0 ≤ upd s.bw s.last (max (s.bw s.last - fits s.last) 0) a
          by_cases e : a = s.last
          · rw [e, upd_at]; omega
          · rw [upd_ne _ _ e]; exact hb a
        · show upd s.cr s.last (s.cr s.last - fits s.last) s.last < 20000
          rw [upd_at]
          have := h.own
          omega
        · intro a e
          show upd s.cr s.last (s.cr s.last - fits s.last) a < 10000
          rw [upd_ne _ _ (show a ≠ s.last from e)]
          exact h.low a e
    · rw [serve_stop hc]
      unfold SlM.leave
      by_cases hz : s.bw s.last = 0
      · rw [if_pos hz]
        exact CrV.lose h.low
      · rw [if_neg hz]
        intro a
        left
        by_cases e : a = s.last
        · have hp : 0 < s.bw s.last := by have := hb s.last; omega
          have := hF.pos s.last hp
          rw [e]
          omega
        · exact h.low a e
theorem CrB.visit {q : Int} {fits : Nat → Int} {blocks : Nat} {s : SlM} (hq : 0 ≤ q ∧ q ≤ 10000) (h : CrB s) (hok : s.Ok blocks) (hF : FitOk fits s.bw) : CrB (visitM q fits blocks s) := by
  have hlow : ∀ a, a ≠ s.come.last → s.cr a < 10000 := fun a e => by
    rcases h a with h' | ⟨h1, h2, _⟩
    · exact h'
    · exact absurd (h2.trans (show s.last = s.come.last from (if_pos h1).symm)) e
  unfold visitM
  split
  · refine CrV.serve _ _ ?_ ?_ ?_ ?_ ⟨?_, ?_⟩
    · have e : (s.come.gain q (!s.opn)).out = s.out := by unfold SlM.gain; split <;> rfl
      rw [e]; omega
    · have e : (s.come.gain q (!s.opn)).out = s.out := by unfold SlM.gain; split <;> rfl
      rw [e]; exact hok.out
    · have e : (s.come.gain q (!s.opn)).bw = s.bw := by unfold SlM.gain; split <;> rfl
      rw [e]; exact hok.bw
    · have e : (s.come.gain q (!s.opn)).bw = s.bw := by unfold SlM.gain; split <;> rfl
      rw [e]; exact hF
    · unfold SlM.gain
      by_cases ho : s.opn = true
      · rw [ho]
        exact h.le _
      · have hof : s.opn = false := by simpa using ho
        rw [hof]
        show upd s.cr s.come.last (s.cr s.come.last + q) s.come.last < 20000
        rw [upd_at]
        rcases h s.come.last with h' | h'
        · omega
        · exact absurd h'.1 ho
    · intro a e
      have e2 : (s.come.gain q (!s.opn)).last = s.come.last := by unfold SlM.gain; split <;> rfl
      rw [e2] at e
      unfold SlM.gain
      split
      · show upd s.cr s.come.last (s.cr s.come.last + q) a < 10000
        rw [upd_ne _ _ e]
        exact hlow a e
      · exact hlow a e
  · exact CrV.lose hlow
theorem Only.visit {l : List UsM} {q : Int} {fits : Nat → Int} {blocks : Nat} {s : SlM} (h : Only l s.bw) (hok : (visitM q fits blocks s).Ok blocks) : Only l (visitM q fits blocks s).bw := fun a ha => by
  have h1 := h a ha
  have h2 := hok.bw a
  rcases Int.lt_or_le 0 ((visitM q fits blocks s).bw a) with hp | hp
  · have := visit_less a hp
    omega
  · omega
end Go.Proofs.Ytmdfjhnibhmdkaf
