import Derived.Test.YtiiobeelmnjffabDoorTable
namespace Go.Proofs.YtiiobeelmnjffabDoor
open Go.ChangeShapes Go.WideShapes Go.ChangeAt Go.RowKit

/-- A table of ways: the best of those that meet S s, for each state s. -/
structure Table (w : World) (B g n : Nat) (soft : List Int) (S : Nat → List Int → Prop) (vv : Nat → Value) (qq : Nat → Int) (tt : Nat → Bool) (bb : Nat → List Int) : Prop where
  row : Row w g vv qq tt
  low : B ≤ g
  own : ∀ s, s < 64 → Own w B (vv s) (bb s)
  ent : ∀ s, s < 64 → Ent (sc soft 0 0) n (S s) (tt s) (bb s) (qq s)

theorem Table.below {w w' : World} {B g n : Nat} {soft : List Int} {S : Nat → List Int → Prop} {vv : Nat → Value} {qq : Nat → Int} {tt : Nat → Bool} {bb : Nat → List Int} (h : Table w B g n soft S vv qq tt bb) (hb : Below w.heap.size w w') : Table w' B g n soft S vv qq tt bb :=
  ⟨h.row.below hb, h.low, fun s hs => (h.own s hs).below hb, h.ent⟩

theorem Table.congr {w : World} {B g n : Nat} {soft : List Int} {S S' : Nat → List Int → Prop} {vv : Nat → Value} {qq : Nat → Int} {tt : Nat → Bool} {bb : Nat → List Int} (h : Table w B g n soft S vv qq tt bb) (hS : ∀ s, s < 64 → ∀ p, S s p ↔ S' s p) : Table w B g n soft S' vv qq tt bb :=
  ⟨h.row, h.low, h.own, fun s hs => ent_congr (hS s hs) (h.ent s hs)⟩

/-- The other table is written. -/
theorem Table.apart {w : World} {B g g' n : Nat} {soft : List Int} {S : Nat → List Int → Prop} {vv : Nat → Value} {qq : Nat → Int} {tt : Nat → Bool} {bb : Nat → List Int} {vv' : Nat → Value} {qq' : Nat → Int} {tt' : Nat → Bool} (h : Table w B g n soft S vv qq tt bb) (hr : Row w g' vv' qq' tt') (hne : g ≠ g') (i : Nat) (x : Value) :
    Table (w.setCell ⟨g', i, none⟩ x) B g n soft S vv qq tt bb :=
  ⟨h.row.apart hne i x, h.low, fun s hs => (h.own s hs).apart hr i x, h.ent⟩

theorem table_first {w : World} {B n : Nat} {soft : List Int} (h : Row w B (fun _ => .slice none 0 0) (fun _ => 0) (upd (fun _ => false) 0 true)) : Table w B B n soft (fun s => At n 0 s) (fun _ => .slice none 0 0) (fun _ => 0) (upd (fun _ => false) 0 true) (fun _ => []) := by
  refine ⟨h, Nat.le_refl _, fun s _ => Own.nil _ _, fun s _ => ?_⟩
  by_cases e : s = 0
  · subst e
    rw [upd_same]
    refine ⟨fun h => by simp at h, fun _ => ⟨⟨[], (at_zero n 0 []).2 ⟨rfl, rfl⟩, by simp, rfl⟩, fun p hp => ?_⟩⟩
    obtain ⟨rfl, _⟩ := (at_zero n 0 p).1 hp
    exact .inr ⟨rfl, by simp [ahead]⟩
  · rw [upd_other _ _ e]
    refine ⟨fun _ p hp => ?_, fun h => by simp at h⟩
    have := (at_zero n s p).1 hp
    omega

theorem table_new {w : World} {B g n i : Nat} {soft : List Int} (h : Row w g (fun _ => .slice none 0 0) (fun _ => 0) (fun _ => false)) (hB : B ≤ g) : Table w B g n soft (fun t => Sofar n i ((2 * 0 : Nat) + (0 : Nat)) t) (fun _ => .slice none 0 0) (fun _ => 0) (fun _ => false) (fun _ => []) :=
  ⟨h, hB, fun s _ => Own.nil _ _, fun s _ => ⟨fun _ p hp => sofar_none n i s p (by simpa using hp), fun h => by simp at h⟩⟩

theorem table_idle {w : World} {B g n i s x : Nat} {soft : List Int} {vv : Nat → Value} {qq : Nat → Int} {tt : Nat → Bool} {bb : Nat → List Int} (h : Table w B g n soft (fun t => Sofar n i ((2 * s : Nat) + (x : Nat)) t) vv qq tt bb) (hx : x ≤ 1) (hi : (∀ p, ¬ At n i s p) ∨ (n ≤ i ∧ x = 1)) :
    Table w B g n soft (fun t => Sofar n i ((2 * s : Nat) + (x + 1 : Nat)) t) vv qq tt bb := by
  refine h.congr fun t _ p => ?_
  have := (sofar_idle (n := n) (i := i) (s := (s : Int)) (x := (x : Int)) (by omega) (by rcases hi with hi | hi; exact .inl hi; exact .inr ⟨hi.1, by omega⟩) t p).symm
  have e1 : ((2 * s : Nat) : Int) + (x : Nat) = 2 * (s : Int) + (x : Int) := by omega
  have e2 : ((2 * s : Nat) : Int) + ((x + 1 : Nat) : Int) = 2 * (s : Int) + (x : Int) + 1 := by omega
  rw [e1, e2]
  exact this

theorem table_turn {w : World} {B g n i s : Nat} {soft : List Int} {vv : Nat → Value} {qq : Nat → Int} {tt : Nat → Bool} {bb : Nat → List Int} (h : Table w B g n soft (fun t => Sofar n i ((2 * s : Nat) + (2 : Nat)) t) vv qq tt bb) :
    Table w B g n soft (fun t => Sofar n i ((2 * (s + 1) : Nat) + (0 : Nat)) t) vv qq tt bb := by
  have e : ((2 * s : Nat) : Int) + ((2 : Nat) : Int) = ((2 * (s + 1) : Nat) : Int) + ((0 : Nat) : Int) := by omega
  rw [e] at h
  exact h

/-- A state that nothing ends in. -/
theorem table_skip {w : World} {B g n i s : Nat} {soft : List Int} {vv : Nat → Value} {qq : Nat → Int} {tt : Nat → Bool} {bb : Nat → List Int} (h : Table w B g n soft (fun t => Sofar n i ((2 * s : Nat) + (0 : Nat)) t) vv qq tt bb) (hi : ∀ p, ¬ At n i s p) :
    Table w B g n soft (fun t => Sofar n i ((2 * (s + 1) : Nat) + (0 : Nat)) t) vv qq tt bb :=
  table_turn (table_idle (x := 1) (table_idle (x := 0) h (by omega) (.inl hi)) (by omega) (.inl hi))

theorem table_end {w : World} {B g n i : Nat} {soft : List Int} {vv : Nat → Value} {qq : Nat → Int} {tt : Nat → Bool} {bb : Nat → List Int} (h : Table w B g n soft (fun t => Sofar n i ((2 * 64 : Nat) + (0 : Nat)) t) vv qq tt bb) :
    Table w B g n soft (fun t => At n (i + 1) t) vv qq tt bb :=
  h.congr fun t _ p => sofar_all n i t p

/-- The candidate. -/
def newB (n i x : Nat) (b : List Int) : List Int := if i < n then b ++ [(x : Int)] else b
def newQ (soft : List Int) (i s x : Nat) (q : Int) : Int := q + gain soft i s x

theorem cand {w : World} {B g n i s x : Nat} {soft : List Int} {vv : Nat → Value} {qq : Nat → Int} {tt : Nat → Bool} {bb : Nat → List Int} (h : Table w B g n soft (fun s => At n i s) vv qq tt bb) (hs : s < 64) (ht : tt s = true) :
    BestIn (sc soft 0 0) n (From n i s x) (newB n i x (bb s)) (newQ soft i s x (qq s)) := from_best ((h.ent s hs).2 ht)

theorem sofar_more {n i s x : Nat} (hx : x ≤ 1) (hz : ¬ (x = 1 ∧ n ≤ i)) (t : Nat) (p : List Int) :
    Sofar n i ((2 * s : Nat) + (x + 1 : Nat)) t p ↔ (Sofar n i ((2 * s : Nat) + (x : Nat)) t p ∨ (x * 32 + s / 2 = t ∧ From n i s x p)) := by
  have := sofar_step (n := n) (i := i) (s := (s : Int)) (x := (x : Int)) (by omega) (by omega) t p
  have e1 : ((2 * s : Nat) : Int) + (x : Nat) = 2 * (s : Int) + (x : Int) := by omega
  have e2 : ((2 * s : Nat) : Int) + ((x + 1 : Nat) : Int) = 2 * (s : Int) + (x : Int) + 1 := by omega
  have e3 : (nxt (s : Int) (x : Int) = (t : Int)) ↔ (x * 32 + s / 2 = t) := by unfold nxt; omega
  rw [e1, e2, this, e3]

theorem more_len {n i s x t : Nat} {M : Int} (p : List Int) (h : Sofar n i M t p ∨ From n i s x p) : (p.take n).length = min n (i + 1) := by
  rcases h with h | ⟨p0, h, rfl⟩
  · exact take_len h
  · rw [List.length_take]
    simp [h.1.len]

theorem table_keep {w : World} {B g g' n i s x : Nat} {soft : List Int} {vv vv' : Nat → Value} {qq qq' : Nat → Int} {tt tt' : Nat → Bool} {bb bb' : Nat → List Int} (h : Table w B g n soft (fun s => At n i s) vv qq tt bb) (hs : s < 64) (ht : tt s = true) (hx : x ≤ 1) (hz : ¬ (x = 1 ∧ n ≤ i))
    (h' : Table w B g' n soft (fun t => Sofar n i ((2 * s : Nat) + (x : Nat)) t) vv' qq' tt' bb') (hk : taken (tt' (x * 32 + s / 2)) (qq' (x * 32 + s / 2)) (newQ soft i s x (qq s)) (bb' (x * 32 + s / 2)) (newB n i x (bb s)) = false) :
    Table w B g' n soft (fun t => Sofar n i ((2 * s : Nat) + (x + 1 : Nat)) t) vv' qq' tt' bb' := by
  refine ⟨h'.row, h'.low, h'.own, fun t ht' => ?_⟩
  by_cases e : x * 32 + s / 2 = t
  · subst e
    refine ent_congr (S := fun p => Sofar n i ((2 * s : Nat) + (x : Nat)) ((x * 32 + s / 2 : Nat) : Int) p ∨ From n i s x p) (fun p => ?_) (ent_keep (more_len) (h'.ent _ ht') (cand h hs ht) hk)
    rw [sofar_more hx hz]
    simp
  · refine ent_congr (fun p => ?_) (h'.ent t ht')
    rw [sofar_more hx hz]
    simp [e]

theorem table_take {w : World} {B g g' n i s x : Nat} {soft : List Int} {vv vv' : Nat → Value} {qq qq' : Nat → Int} {tt tt' : Nat → Bool} {bb bb' : Nat → List Int} {v : Value} (h : Table w B g n soft (fun s => At n i s) vv qq tt bb) (hs : s < 64) (ht : tt s = true) (hx : x ≤ 1) (hz : ¬ (x = 1 ∧ n ≤ i))
    (h' : Table w B g' n soft (fun t => Sofar n i ((2 * s : Nat) + (x : Nat)) t) vv' qq' tt' bb') (hk : taken (tt' (x * 32 + s / 2)) (qq' (x * 32 + s / 2)) (newQ soft i s x (qq s)) (bb' (x * 32 + s / 2)) (newB n i x (bb s)) = true) (hv : Own w B v (newB n i x (bb s))) :
    Table (((w.setCell ⟨g', 3 * (x * 32 + s / 2), none⟩ v).setCell ⟨g', 3 * (x * 32 + s / 2) + 1, none⟩ (.int .i64 (newQ soft i s x (qq s)))).setCell ⟨g', 3 * (x * 32 + s / 2) + 2, none⟩ (.bool true)) B g' n soft (fun t => Sofar n i ((2 * s : Nat) + (x + 1 : Nat)) t)
      (upd vv' (x * 32 + s / 2) v) (upd qq' (x * 32 + s / 2) (newQ soft i s x (qq s))) (upd tt' (x * 32 + s / 2) true) (upd bb' (x * 32 + s / 2) (newB n i x (bb s))) := by
  have hto : x * 32 + s / 2 < 64 := by omega
  have r0 := h'.row
  have r1 := r0.set0 hto v
  have r2 := r1.set1 hto (newQ soft i s x (qq s))
  have r3 := r2.set2 hto true
  refine ⟨r3, h'.low, fun t ht' => ?_, fun t ht' => ?_⟩
  · refine Own.apart (Own.apart (Own.apart ?_ r0 _ _) r1 _ _) r2 _ _
    by_cases e : t = x * 32 + s / 2
    · subst e; rw [upd_same, upd_same]; exact hv
    · rw [upd_other _ _ e, upd_other _ _ e]; exact h'.own t ht'
  · by_cases e : t = x * 32 + s / 2
    · subst e
      rw [upd_same, upd_same, upd_same]
      refine ent_congr (S := fun p => Sofar n i ((2 * s : Nat) + (x : Nat)) ((x * 32 + s / 2 : Nat) : Int) p ∨ From n i s x p) (fun p => ?_) (ent_take (more_len) (h'.ent _ ht') (cand h hs ht) hk)
      rw [sofar_more hx hz]
      simp
    · rw [upd_other _ _ e, upd_other _ _ e, upd_other _ _ e]
      refine ent_congr (fun p => ?_) (h'.ent t ht')
      rw [sofar_more hx hz]
      simp [Ne.symm e]

/-- What is decoded. -/
theorem table_last {w : World} {B g n : Nat} {soft : List Int} {vv : Nat → Value} {qq : Nat → Int} {tt : Nat → Bool} {bb : Nat → List Int} (h : Table w B g n soft (fun s => At n (n + 6) s) vv qq tt bb) :
    Own w B (vv 0) (way soft n 0 0) ∧ qq 0 = top soft n 0 0 := by
  have he := h.ent 0 (by omega)
  have ht : tt 0 = true := by
    cases e : tt 0 with
    | true => rfl
    | false =>
      exfalso
      refine he.1 e (List.replicate (n + 6) 0) ⟨⟨by simp, fun y hy => ?_, fun j _ => ?_⟩, ?_⟩
      · rw [List.eq_of_mem_replicate hy]; omega
      · simp only [List.getD, List.getElem?_replicate]
        split <;> rfl
      · have : ∀ m, ends 0 (List.replicate m 0) = 0 := fun m => by
          induction m with
          | zero => rfl
          | succ m ih => rw [List.replicate_succ]; simpa [ends, nxt] using ih
        simpa using this (n + 6)
  obtain ⟨e1, e2⟩ := last_best (he.2 ht)
  have := h.own 0 (by omega)
  rw [e1] at this
  exact ⟨this, e2⟩
end Go.Proofs.YtiiobeelmnjffabDoor
