import Derived.Test.YtbmdjfolfmgmmagGdL
namespace Go.Proofs.Ytbmdjfolfmgmmag
open Go.ChangeShapes Go.WideShapes Go.ChangeAt Go.RowKit Go.Maps

/-! THE LAW GuardOnce: a packet comes. -/

def GcM.Has (m : GcM) (j : Nat) : Prop := j < m.fst ∨ (m.M j).isSome = true
theorem has_put {m : GcM} {p : PktM} {n : Nat} {j : Nat} (h : m.Has j ∨ j = m.cnt p) : ((m.put p).cut n).Has j := by
  by_cases h1 : j < m.fst + n
  · exact .inl h1
  · refine .inr ?_
    show (cutM (updM m.M (m.cnt p) (some (m.opened p))) (m.fst + n) j).isSome = true
    unfold cutM
    rw [if_neg h1]
    by_cases e : j = m.cnt p
    · rw [e, updM_same]; rfl
    · rw [updM_other _ _ e]
      rcases h with (h | h) | h
      · omega
      · exact h
      · exact absurd h e
def GuTake (w wr : World) (ds : List ByteArray) (k : Int) (gs gr bm : Nat) (vs vo vt : Value) (sd : SdM) (rc : GcM) (out : List PktM) (n c : Nat) : Ending → World → Prop := fun e w' => ∃ v rc' x tl', e = .returned (.tuple #[v, .int .i64 x]) ∧ w'.ownsRow wr.heap.size 9 1 v tl'.length (tl'.map Value.string) ∧ Gu w w' gs gr bm vs vo vt sd rc' out (ds.take rc.fst) ∧ GoOk ds k ⟨sd, rc', out, n⟩ ∧ ds.take rc.fst ++ tl' = ds.take rc'.fst ∧ ∀ j, rc.Has j ∨ j = c → rc'.Has j
theorem Gu.take {w wr : World} {ds : List ByteArray} {k : Int} {gs gr bm : Nat} {vs vo vt : Value} {sd : SdM} {rc : GcM} {out : List PktM} {n : Nat} (h : Gu w wr gs gr bm vs vo vt sd rc out (ds.take rc.fst)) (hG : GoOk ds k ⟨sd, rc, out, n⟩) {c : Nat} (hc : c < n) :
    Calls Try.prog 14 #[.pointer (some ⟨gr, 0, none⟩), (pktG k c (dAt ds c)).val] wr (GuTake w wr ds k gs gr bm vs vo vt sd rc out n c) := by
  obtain ⟨h1, h2, h3, h4, h5⟩ := hG.packet hc
  have hsl : (pktG k c (dAt ds c)).sl = sealG (rc.cnt (pktG k c (dAt ds c))) (rc.opened (pktG k c (dAt ds c))) := by rw [h3, h4]; exact h5
  by_cases hx : cntErr rc c = 0
  · have hx' : rc.fst ≤ c ∧ rc.M c = none := by
      unfold cntErr at hx
      split at hx
      · cases hx
      · split at hx
        · cases hx
        · rename_i q1 q2
          exact ⟨by omega, by simpa using q2⟩
    have hcn : c < 16777216 := by have := hG.few; have : n ≤ 200 := this; omega
    have hok' := h.rc.ok.put (p := pktG k c (dAt ds c)) (by rw [h3]; exact hcn) (by rw [h3]; exact hx'.1)
    obtain ⟨r, hr⟩ := run_ex (rc.put (pktG k c (dAt ds c))).M 16777216 (hok'.top _ (Nat.le_refl _)) (16777216 - rc.fst) rc.fst (by have := h.rc.ok.few; omega)
    obtain ⟨q1, q2, q3⟩ := hG.taken hc h3 h4 hr
    refine (gtake_ok h.rc _ h1 h2 hsl (by rw [h3]; exact hx) hr).mono ?_
    rintro e w' ⟨v, rfl, ho, hK, hP⟩
    refine ⟨v, _, 0, toldG (rc.put (pktG k c (dAt ds c))).M rc.fst r, rfl, ?_, h.stepR hK hP, q1, q2, fun j hj => has_put (by rw [h3]; exact hj)⟩
    rw [toldG_length]
    exact ho
  · refine (gtake_old h.rc _ h1 h2 hsl (cntErr rc c) (by rw [h3]) hx).mono ?_
    rintro e w' ⟨rfl, hb⟩
    refine ⟨_, rc, _, [], rfl, ⟨rfl, .inl ⟨rfl, rfl⟩⟩, h.below hb, hG, List.append_nil _, fun j hj => ?_⟩
    rcases hj with hj | rfl
    · exact hj
    · unfold cntErr at hx
      split at hx
      · rename_i q
        exact .inl q
      · split at hx
        · rename_i q
          exact .inr q
        · exact absurd rfl hx
theorem all_has {ds : List ByteArray} {k : Int} {m : GoM} (h : GoOk ds k m) (ha : ∀ j, j < m.n → m.rc.Has j) : m.rc.fst = m.n := by
  have h1 := h.fst
  rcases Nat.lt_or_ge m.rc.fst m.n with h2 | h2
  · rcases ha _ h2 with h3 | h3
    · omega
    · rw [h.next] at h3; cases h3
  · omega
theorem again_at (m : SdM) (k : Int) {i : Nat} (hi : i < m.wait.length) : (m.again k).getD i .zero = pktG k (m.beg + i) (m.wait.getD i ByteArray.empty) := by
  simp [SdM.again, List.getD, hi]
end Go.Proofs.Ytbmdjfolfmgmmag
