import Derived.Test.YtmdfjhnibhmdkafDoorMgF
import Derived.Test.YtmdfjhnibhmdkafDoorMfA
namespace Go.Proofs.YtmdfjhnibhmdkafDoor
open Go.ChangeShapes Go.WideShapes Go.ChangeAt Go.RowKit

/-! BYTES GIVEN AWAY: the program's two rounds, step by step (mathematics); what stands in memory meanwhile. -/

def lvs (l : List ShM) : List Int := l.map ShM.lv
theorem lvs_at {l : List ShM} {i : Nat} (h : i < l.length) : (lvs l).getD i 0 = (l.getD i .zero).lv := by
  unfold lvs
  simp [List.getD, h]
theorem give_first {lv bl : List Int} {S : GiveM} {i : Nat} (hb : 0 ≤ bl.getD i 0) (hl : 0 ≤ S.left) (h0 : S.out.getD i 0 = 0) :
    S.give true lv bl i = ⟨S.out.set i (min (min (bl.getD i 0) (max (lv.getD i 0) 0)) S.left), S.left - min (min (bl.getD i 0) (max (lv.getD i 0) 0)) S.left⟩ := by
  unfold GiveM.give
  rw [h0]
  have e : giveN true (lv.getD i 0) (bl.getD i 0 - 0) S.left = min (min (bl.getD i 0) (max (lv.getD i 0) 0)) S.left := by
    unfold giveN
    simp only [true_and]
    generalize bl.getD i 0 = b at *
    generalize lv.getD i 0 = v at *
    split <;> split <;> split <;> omega
  rw [e, Int.zero_add]
theorem give_second {lv bl : List Int} {S : GiveM} {i : Nat} (hb : S.out.getD i 0 ≤ bl.getD i 0) (hl : 0 ≤ S.left) :
    S.give false lv bl i = ⟨S.out.set i (S.out.getD i 0 + min (bl.getD i 0 - S.out.getD i 0) S.left), S.left - min (bl.getD i 0 - S.out.getD i 0) S.left⟩ := by
  unfold GiveM.give
  have e : giveN false (lv.getD i 0) (bl.getD i 0 - S.out.getD i 0) S.left = min (bl.getD i 0 - S.out.getD i 0) S.left := by
    unfold giveN
    simp only [Bool.false_eq_true, false_and, if_false]
    have hb' : 0 ≤ bl.getD i 0 - S.out.getD i 0 := by omega
    generalize bl.getD i 0 - S.out.getD i 0 = b at *
    split <;> split <;> omega
  rw [e]
theorem set_other (l : List Int) {i j : Nat} (x : Int) (h : j ≠ i) : (l.set i x).getD j 0 = l.getD j 0 := by
  have e' : i ≠ j := fun e => h e.symm
  simp [List.getD, e']
theorem round_other (first : Bool) (lv bl : List Int) {j : Nat} : ∀ (ord : List Nat) (g : GiveM), j ∉ ord → (g.round first lv bl ord).out.getD j 0 = g.out.getD j 0
  | [], _, _ => rfl
  | i :: ord, g, h => by
    have h1 : j ≠ i := fun e => h (by simp [e])
    have ih := round_other first lv bl ord (g.give first lv bl i) (fun hh => h (List.mem_cons_of_mem _ hh))
    show ((g.give first lv bl i).round first lv bl ord).out.getD j 0 = _
    rw [ih]
    exact set_other _ _ h1
theorem round_take (first : Bool) (lv bl : List Int) (ord : List Nat) (g : GiveM) {k : Nat} (h : k < ord.length) : g.round first lv bl (ord.take (k + 1)) = (g.round first lv bl (ord.take k)).give first lv bl (ord.getD k 0) := by
  have e : ord.getD k 0 = ord[k] := by simp [List.getD, h]
  unfold GiveM.round
  rw [List.take_succ_eq_append_getElem h, List.foldl_append, e]
  rfl
theorem not_before {ord : List Nat} (hn : ord.Nodup) {k : Nat} (h : k < ord.length) : ord.getD k 0 ∉ ord.take k := by
  have e : ord.getD k 0 = ord[k] := by simp [List.getD, h]
  rw [e]
  intro hm
  obtain ⟨j, hj, he⟩ := List.getElem_of_mem hm
  have hjk : j < k := by
    rw [List.length_take] at hj
    omega
  rw [List.getElem_take] at he
  exact (List.pairwise_iff_getElem.1 hn) j k (by omega) h hjk he
/-- Levels, once the channels of some places were given all they are given. -/
def lvTo (l : List ShM) (done : List Nat) (out : List Int) : List ShM := l.mapIdx fun j t => if j ∈ done then ⟨t.ch, t.lv - out.getD j 0⟩ else t
theorem lvTo_length (l : List ShM) (done : List Nat) (out : List Int) : (lvTo l done out).length = l.length := by simp [lvTo]
theorem lvTo_at {l : List ShM} {done : List Nat} {out : List Int} {i : Nat} (h : i < l.length) : (lvTo l done out).getD i .zero = if i ∈ done then ⟨(l.getD i .zero).ch, (l.getD i .zero).lv - out.getD i 0⟩ else l.getD i .zero := by
  unfold lvTo
  simp [List.getD, h]
theorem lvTo_get (l : List ShM) (done : List Nat) (out : List Int) (j : Nat) : (lvTo l done out)[j]? = (l[j]?).map fun t => if j ∈ done then ⟨t.ch, t.lv - out.getD j 0⟩ else t := by
  unfold lvTo
  rw [List.getElem?_mapIdx]
theorem lvTo_none (l : List ShM) (out : List Int) : lvTo l [] out = l := by
  refine List.ext_getElem? fun j => ?_
  rw [lvTo_get]
  cases l[j]? <;> simp
theorem lvTo_set {l : List ShM} {ord : List Nat} {out : List Int} {k : Nat} (hn : ord.Nodup) (hk : k < ord.length) (hi : ord.getD k 0 < l.length) (ho : ord.getD k 0 < out.length) (x : Int) :
    (lvTo l (ord.take k) out).set (ord.getD k 0) ⟨(l.getD (ord.getD k 0) .zero).ch, (l.getD (ord.getD k 0) .zero).lv - x⟩ = lvTo l (ord.take (k + 1)) (out.set (ord.getD k 0) x) := by
  have e : ord.getD k 0 = ord[k] := by simp [List.getD, hk]
  have htk : ∀ j, (j ∈ ord.take (k + 1)) ↔ (j ∈ ord.take k ∨ j = ord.getD k 0) := fun j => by
    rw [List.take_succ_eq_append_getElem hk, List.mem_append, List.mem_singleton, ← e]
  have hnb := not_before hn hk
  obtain ⟨i, ei⟩ : ∃ i, i = ord.getD k 0 := ⟨_, rfl⟩
  rw [← ei] at hi ho htk hnb ⊢
  refine List.ext_getElem? fun j => ?_
  rw [List.getElem?_set, lvTo_get, lvTo_get, lvTo_length]
  by_cases hj : i = j
  · subst hj
    rw [if_pos rfl, if_pos hi, List.getElem?_eq_getElem hi]
    have e2 : l.getD i .zero = l[i] := by simp [List.getD, hi]
    have e3 : (out.set i x).getD i 0 = x := by simp [List.getD, ho]
    rw [Option.map_some, if_pos ((htk i).2 (.inr rfl)), e2, e3]
  · rw [if_neg hj, set_other out x (fun h => hj h.symm)]
    have hm : (j ∈ ord.take (k + 1)) ↔ j ∈ ord.take k := by
      rw [htk]
      constructor
      · rintro (h | h)
        · exact h
        · exact absurd h.symm hj
      · exact .inl
    simp only [hm]
end Go.Proofs.YtmdfjhnibhmdkafDoor
