import Derived.Test.YtmdfjhnibhmdkafTnG
namespace Go.Proofs.Ytmdfjhnibhmdkaf
open Go.ChangeShapes Go.WideShapes Go.ChangeAt Go.RowKit

/-! A Slot under way, in memory: what is written. -/

def slot0 (l : List UsM) (last : Nat) (opn : Bool) (cr : Nat → Int) : SlM := ⟨last, opn, cr, byF UsM.byt l, []⟩
theorem okU_few {l : List UsM} (h : OkU l) : l.length ≤ 16 := by
  rcases Nat.eq_zero_or_pos l.length with e | e
  · omega
  · have h1 : ∀ k, k < l.length → (k : Int) + 1 ≤ (l.getD k .zero).who := by
      intro k
      induction k with
      | zero => intro hk; have := (h.at hk).1; omega
      | succ k ih =>
        intro hk
        have h2 := ih (by omega)
        have h3 := h.rise 0 k (by omega)
        have e : k + 0 + 1 = k + 1 := by omega
        rw [e] at h3
        omega
    have h2 := h1 (l.length - 1) (by omega)
    have h3 := (h.at (i := l.length - 1) (by omega)).1
    omega

theorem upd_upd (f : Nat → Int) (a : Nat) (x y : Int) : upd (upd f a x) a y = upd f a y := by
  funext b
  unfold upd
  split <;> rfl
theorem SlA.setO {T : TypeId} {w00 w : World} {B r go : Nat} {q : Int} {v : Value} {l : List UsM} {blocks : Nat} {s : SlM} (h : SlA T w00 w B r go q v l blocks s) (hA : ApaT w00 B r go v) (ho : s.out.length < blocks) (x : Int) : SlA T w00 (w.setCell ⟨go, s.out.length, none⟩ (.int .i64 x)) B r go q v l blocks ⟨s.last, s.opn, s.cr, s.bw, s.out ++ [x]⟩ := by
  have h1 := hA.r1
  have h2 := hA.g1
  have h3 := hA.b
  refine ⟨h.t.other _ _ (by show r ≠ go; omega), h.u.other hA.v1 _, ?_, ⟨h.k.os, h.k.tape, h.k.output, by simpa [World.setCell] using h.k.size, fun k hk hn => ?_⟩⟩
  · show ArrAt .i64 _ _ go (fillO (s.out ++ [x]) blocks)
    rw [← fillO_set ho x]
    exact h.o.set _ x
  · exact (Below.heap_setCell _ _ _ _ (by show k ≠ go; omega)).trans (h.k.block k hk hn)
theorem SlA.setU {T : TypeId} {w00 w : World} {B r go gb n c : Nat} {q : Int} {l : List UsM} {blocks : Nat} {s : SlM} (h : SlA T w00 w B r go q (.slice (some ⟨gb, 0, none⟩) n c) l blocks s) (hA : ApaT w00 B r go (.slice (some ⟨gb, 0, none⟩) n c)) (hO : OkU l) {i : Nat} (hi : i < l.length) (x : Int) : SlA T w00 (w.setCell ⟨gb, i * 3 + 1, none⟩ (.int .i64 x)) B r go q (.slice (some ⟨gb, 0, none⟩) n c) l blocks ⟨s.last, s.opn, s.cr, upd s.bw (l.getD i .zero).who.toNat x, s.out⟩ := by
  have h1 := hA.r1
  have h3 := hA.b
  have h4 := (h.u.lt gb rfl).1
  have h5 : go ≠ gb := fun e => hA.v1 (by rw [e]; rfl)
  refine ⟨h.t.other _ _ (by show r ≠ gb; omega), ?_, h.o.other _ _ h5, ⟨h.k.os, h.k.tape, h.k.output, by simpa [World.setCell] using h.k.size, fun k hk hn => ?_⟩⟩
  · have := h.u.setBy (i := i) (by rw [curU_length]; exact hi) x
    rw [curU_at s.bw hi, curU_set hO hi x] at this
    exact this
  · exact (Below.heap_setCell _ _ _ _ (by show k ≠ gb; omega)).trans (h.k.block k hk hn)
theorem SlA.cellU {T : TypeId} {w00 w : World} {B r go gb n c : Nat} {q : Int} {l : List UsM} {blocks : Nat} {s : SlM} (h : SlA T w00 w B r go q (.slice (some ⟨gb, 0, none⟩) n c) l blocks s) {j : Nat} (hj : j < l.length) : w.cell? ⟨gb, j * 3 + 1, none⟩ = some (.int .i64 (s.bw (l.getD j .zero).who.toNat)) ∧ w.cell? ⟨gb, j * 3 + 2, none⟩ = some (.int .i64 (l.getD j .zero).fit) ∧ w.frozen? ⟨gb, j * 3 + 1, none⟩ = false := by
  obtain ⟨gb', cc, e, -, -, hCU⟩ := h.u.at (by rw [curU_length]; omega)
  simp only [Value.slice.injEq, Option.some.injEq, Addr.mk.injEq, and_true] at e
  obtain ⟨rfl, -, -⟩ := e
  obtain ⟨⟨-, u1, u2⟩, uz⟩ := hCU j (by rw [curU_length]; exact hj)
  rw [curU_at s.bw hj] at u1 u2
  exact ⟨u1, u2, uz⟩
theorem SlA.as {T : TypeId} {w00 w : World} {B r go : Nat} {q : Int} {v : Value} {l : List UsM} {blocks : Nat} {s s' : SlM} (h : SlA T w00 w B r go q v l blocks s) (e : s' = s) : SlA T w00 w B r go q v l blocks s' := by rw [e]; exact h
def SlM.came (s : SlM) : SlM := ⟨s.come.last, s.opn, s.cr, s.bw, s.out⟩
theorem came_open {s : SlM} (h : s.opn = true) : s.came = s := by
  obtain ⟨a, b, c, d, e⟩ := s
  simp only at h
  subst h
  rfl
theorem serve_le (fits : Nat → Int) (blocks : Nat) : ∀ (f : Nat) (s : SlM), FitOk fits s.bw → ∀ a, (serveM fits blocks f s).bw a ≤ s.bw a
  | 0, s, _, a => Int.le_refl _
  | f + 1, s, hF, a => by
    unfold serveM
    split
    · rename_i hc
      split
      · exact Int.le_refl _
      · refine Int.le_trans (serve_le fits blocks f (s.give fits) (hF.less (give_less s hc.1)) a) ?_
        have := hF.pos s.last hc.1
        show upd s.bw s.last (max (s.bw s.last - fits s.last) 0) a ≤ s.bw a
        by_cases e : a = s.last
        · rw [e, upd_at]; omega
        · rw [upd_ne _ _ e]; exact Int.le_refl _
    · exact Int.le_refl _
theorem visit_le {q : Int} {fits : Nat → Int} {blocks : Nat} {s : SlM} (hF : FitOk fits s.bw) (a : Nat) : (visitM q fits blocks s).bw a ≤ s.bw a := by
  unfold visitM
  split
  · have hl : ∀ t : SlM, t.leave.bw = t.bw := fun t => by unfold SlM.leave; split <;> rfl
    have hg : (s.come.gain q (!s.opn)).bw = s.bw := by unfold SlM.gain; split <;> rfl
    rw [hl]
    have := serve_le fits blocks (blocks + 1) (s.come.gain q (!s.opn)) (by rw [hg]; exact hF) a
    rwa [hg] at this
  · exact Int.le_refl _
def CrU (s : SlM) : Prop := CrB s ∧ ∀ a, s.bw a ≤ 1000000
theorem byF_le {l : List UsM} (h : OkU l) (a : Nat) : 0 ≤ byF UsM.byt l a ∧ byF UsM.byt l a ≤ 1000000 := by
  by_cases hex : ∃ i, i < l.length ∧ (l.getD i .zero).who = (a : Int)
  · obtain ⟨i, hi, e⟩ := hex
    have hf := byF_at (f := UsM.byt) h hi
    rw [e, Int.toNat_natCast] at hf
    rw [hf]
    exact (h.at hi).2.1
  · rw [byF_none fun i hi e => hex ⟨i, hi, e⟩]
    omega

end Go.Proofs.Ytmdfjhnibhmdkaf
