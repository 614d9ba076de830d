import Derived.Test.YtmdfjhnibhmdkafDoorSt25
import Derived.Test.YtmdfjhnibhmdkafDoorSt19
namespace Go.Proofs.YtmdfjhnibhmdkafDoor
open Go.ChangeShapes Go.WideShapes Go.ChangeAt Go.RowKit
theorem ids_ne {l : List ChM} (h : OkAll l) {i j : Nat} (hij : i < j) (hj : j < l.length) : (l.getD i .zero).id ≠ (l.getD j .zero).id := fun e => by
  have h2 := (h j hj).2
  have hlen : ((l.take j).map shOf).length = j := by simp; omega
  refine findI_none h2 (j := i) (by rw [hlen]; exact hij) ?_
  have hi : i < l.length := by omega
  have e3 : ((l.take j).map shOf).getD i .zero = shOf (l.getD i .zero) := by
    simp [List.getD, hi, hij]
  rw [e3]
  exact e
/-- Shares of these channels. -/
def Sames (l : List ChM) (L : List ShM) : Prop := L.length = l.length ∧ ∀ i, i < l.length → (L.getD i .zero).ch = l.getD i .zero
theorem Sames.new (l : List ChM) : Sames l (l.map shOf) := ⟨by simp, fun i hi => by simp [List.getD, hi, shOf]⟩
theorem Sames.tick {l : List ChM} {L : List ShM} (h : Sames l L) : Sames l (L.map tickS) := ⟨by simp [h.1], fun i hi => by
  have hL : i < L.length := by rw [h.1]; exact hi
  rw [← h.2 i hi]
  simp [List.getD, hL, tickS]⟩
theorem Sames.all {l : List ChM} {L : List ShM} (h : Sames l L) (out : List Int) : Sames l (lvAll L out) := ⟨by unfold lvAll; rw [lvTo_length, h.1], fun i hi => by
  have hL : i < L.length := by rw [h.1]; exact hi
  unfold lvAll
  rw [lvTo_at hL, if_pos (ordT_mem hL), ← h.2 i hi]⟩
theorem lvAll_at {L : List ShM} (out : List Int) {i : Nat} (hL : i < L.length) : ((lvAll L out).getD i .zero).lv = (L.getD i .zero).lv - out.getD i 0 := by
  unfold lvAll
  rw [lvTo_at hL, if_pos (ordT_mem hL)]
theorem Sames.find {l : List ChM} {L : List ShM} (h : Sames l L) (hO : OkAll l) {k : Nat} (hk : k < l.length) : findI L (l.getD k .zero).id = (k : Int) := by
  refine findI_hit (by rw [h.1]; exact hk) (by rw [h.2 k hk]; exact beq_self_eq_true _) fun j hj => ?_
  rw [h.2 j (by omega)]
  exact beq_false_of_ne (ids_ne hO hj hk)
theorem Sames.level {l : List ChM} {L : List ShM} (h : Sames l L) (hO : OkAll l) {k : Nat} (hk : k < l.length) : levelV L (l.getD k .zero).id = .tuple #[.int .i64 (L.getD k .zero).lv, .int .i64 0] := by
  unfold levelV
  rw [h.find hO hk, if_neg (by omega)]
  rfl
theorem Sames.apart {l : List ChM} {L : List ShM} (h : Sames l L) (hO : OkAll l) : IdsApart L := fun i j hi hj e => by
  unfold chAt at e
  rw [h.1] at hi hj
  rw [h.2 i hi, h.2 j hj] at e
  rcases Nat.lt_trichotomy i j with hl | hl | hl
  · exact absurd e (ids_ne hO hl hj)
  · exact hl
  · exact absurd e.symm (ids_ne hO hl hi)
/-- Levels as they are before anything was given. -/
def Lvl (L : List ShM) : Prop := ∀ i, i < L.length → 0 ≤ (L.getD i .zero).lv ∧ (L.getD i .zero).lv ≤ 100000
theorem Lvl.new (l : List ChM) : Lvl (l.map shOf) := fun i hi => by
  have hl : i < l.length := by simpa using hi
  have e : ((l.map shOf).getD i .zero).lv = 0 := by simp [List.getD, hl, shOf]
  rw [e]
  exact ⟨by omega, by omega⟩
theorem ok_bounds {l : List ChM} (hO : OkAll l) {i : Nat} (hi : i < l.length) : (0 ≤ (l.getD i .zero).rate ∧ (l.getD i .zero).rate ≤ 10000) ∧ (0 ≤ (l.getD i .zero).depth ∧ (l.getD i .zero).depth ≤ 100000) := by
  have h := of_decide_eq_true (hO i hi).1
  exact ⟨h.2.2.2.1, h.2.2.2.2⟩
theorem Lvl.fits {l : List ChM} {L : List ShM} (hV : Lvl L) (h : Sames l L) (hO : OkAll l) : ∀ i, i < L.length → (L.getD i .zero).fits := fun i hi => by
  have hl : i < l.length := by rw [← h.1]; exact hi
  have hb := ok_bounds hO hl
  have hv := hV i hi
  rw [← h.2 i hl] at hb
  exact ⟨⟨by omega, by omega⟩, hb.1, hb.2⟩
theorem Lvl.tick {l : List ChM} {L : List ShM} (hV : Lvl L) (h : Sames l L) (hO : OkAll l) : Lvl (L.map tickS) := fun i hi => by
  have hL : i < L.length := by simpa using hi
  have hl : i < l.length := by rw [← h.1]; exact hL
  have hb := ok_bounds hO hl
  have hv := hV i hL
  rw [← h.2 i hl] at hb
  have e : ((L.map tickS).getD i .zero).lv = min ((L.getD i .zero).lv + (L.getD i .zero).ch.rate) (L.getD i .zero).ch.depth := by simp [List.getD, hL, tickS]
  rw [e]
  omega
theorem Chs.below {w w' : World} {a : Option Addr} {l : List ChM} (h : Chs w a l) (hb : Below w.heap.size w w') : Chs w' a l := by
  intro hne
  obtain ⟨b, o, rfl, hc⟩ := h hne
  exact ⟨b, o, rfl, fun i hi => ⟨cellB hb (hc i hi).1, cellB hb (hc i hi).2.1, cellB hb (hc i hi).2.2.1, cellB hb (hc i hi).2.2.2⟩⟩
end Go.Proofs.YtmdfjhnibhmdkafDoor
