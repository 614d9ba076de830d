import Derived.Test.YtmdfjhnibhmdkafDoorMgA
import Derived.Deep.RegionLaw
namespace Go.Proofs.YtmdfjhnibhmdkafDoor
open Go.ChangeShapes Go.WideShapes Go.ChangeAt Go.RowKit

/-! THE PROGRAM'S New. -/

theorem Tryd.infoSh : (Tryd.prog.info? 79).map (fun i => (i.zero, i.size, i.bytes)) = some (some (.agg #[.int .i64 0, .int .i64 0, .int .i64 0, .int .i64 0, .int .i64 0]), 5, 40) := by kernel_rfl
/-- Channels that can be read. -/
def Chs (w : World) (a : Option Addr) (l : List ChM) : Prop := l ≠ [] → ∃ b o, a = some ⟨b, o, none⟩ ∧ ∀ i, i < l.length → w.cell? ⟨b, o + i * 4, none⟩ = some (.int .i64 (l.getD i .zero).id) ∧ w.cell? ⟨b, o + i * 4 + 1, none⟩ = some (.int .i64 (l.getD i .zero).prio) ∧ w.cell? ⟨b, o + i * 4 + 2, none⟩ = some (.int .i64 (l.getD i .zero).rate) ∧ w.cell? ⟨b, o + i * 4 + 3, none⟩ = some (.int .i64 (l.getD i .zero).depth)
theorem Chs.at {w : World} {a : Option Addr} {l : List ChM} (h : Chs w a l) {i : Nat} (hi : i < l.length) : ∃ b o, a = some ⟨b, o, none⟩ ∧ (w.cell? ⟨b, o + i * 4, none⟩ = some (.int .i64 (l.getD i .zero).id) ∧ w.cell? ⟨b, o + i * 4 + 1, none⟩ = some (.int .i64 (l.getD i .zero).prio) ∧ w.cell? ⟨b, o + i * 4 + 2, none⟩ = some (.int .i64 (l.getD i .zero).rate) ∧ w.cell? ⟨b, o + i * 4 + 3, none⟩ = some (.int .i64 (l.getD i .zero).depth)) := by
  obtain ⟨b, o, e, hc⟩ := h (by rintro rfl; simp at hi)
  exact ⟨b, o, e, hc i hi⟩
def shOf (c : ChM) : ShM := ⟨c, 0⟩
/-- The first channels may be, and no ID comes twice among them. -/
def okTo (l : List ChM) (k : Nat) : Prop := ∀ j, j < k → (l.getD j .zero).ok = true ∧ findI ((l.take j).map shOf) (l.getD j .zero).id = -1
def OkAll (l : List ChM) : Prop := okTo l l.length
theorem findI_lt (l : List ShM) (id : Int) : findI l id < l.length := by
  unfold findI findN
  cases h : l.findIdx? fun x => x.ch.id == id with
  | none => simp only; omega
  | some i =>
    rw [List.findIdx?_eq_some_iff_getElem] at h
    obtain ⟨h1, -⟩ := h
    simp only
    omega
theorem findI_ge (l : List ShM) (id : Int) : findI l id = -1 ∨ 0 ≤ findI l id := by
  unfold findI
  cases findN l id with
  | none => exact .inl rfl
  | some i => exact .inr (by simp only; omega)
theorem findI_none {l : List ShM} {id : Int} (h : findI l id = -1) {j : Nat} (hj : j < l.length) : (l.getD j .zero).ch.id ≠ id := by
  intro e
  unfold findI findN at h
  cases hq : l.findIdx? fun x => x.ch.id == id with
  | some i => rw [hq] at h; simp only at h; omega
  | none =>
    rw [List.findIdx?_eq_none_iff] at hq
    have := hq (l[j]) (List.getElem_mem hj)
    have e2 : l.getD j .zero = l[j] := by simp [List.getD, hj]
    rw [e2] at e
    simp [e] at this
theorem take_shOf {l : List ChM} {k : Nat} (h : k < l.length) : (l.take (k + 1)).map shOf = (l.take k).map shOf ++ [shOf (l.getD k .zero)] := by
  have e : l.getD k .zero = l[k] := by simp [List.getD, h]
  rw [List.take_succ_eq_append_getElem h, List.map_append, e]
  rfl
/-- As no ID comes twice there are no more channels than IDs. -/
theorem ok_few {l : List ChM} {k : Nat} (h : okTo l k) (hk : k ≤ l.length) : k ≤ 32 := by
  have hid : ∀ j, j < k → 1 ≤ (l.getD j .zero).id ∧ (l.getD j .zero).id ≤ 32 := fun j hj => by
    have := of_decide_eq_true (h j hj).1
    exact ⟨this.1, this.2.1⟩
  have hne : ∀ i j, i < j → j < k → (l.getD i .zero).id ≠ (l.getD j .zero).id := fun i j hij hj e => by
    have h2 := (h j hj).2
    have hlen : ((l.take j).map shOf).length = j := by simp; omega
    refine findI_none h2 (j := i) (by rw [hlen]; exact hij) ?_
    have hi : i < l.length := by omega
    have e3 : ((l.take j).map shOf).getD i .zero = shOf (l.getD i .zero) := by
      simp [List.getD, hi, hij]
    rw [e3]
    exact e
  have hnd : ((List.range k).map fun j => (l.getD j .zero).id.toNat).Nodup := by
    rw [List.nodup_iff_pairwise_ne, List.pairwise_map]
    refine List.Pairwise.imp_of_mem (R := (· < ·)) ?_ List.pairwise_lt_range
    intro i j hi hj hij e
    have hi' := List.mem_range.1 hi
    have hj' := List.mem_range.1 hj
    have := hid i hi'
    have := hid j hj'
    exact hne i j hij hj' (by omega)
  have hsub : ((List.range k).map fun j => (l.getD j .zero).id.toNat) ⊆ List.range 33 := by
    intro x hx
    obtain ⟨j, hj, rfl⟩ := List.mem_map.1 hx
    have := hid j (List.mem_range.1 hj)
    exact List.mem_range.2 (by omega)
  have h0 : 0 ∉ (List.range k).map fun j => (l.getD j .zero).id.toNat := by
    intro hx
    obtain ⟨j, hj, e⟩ := List.mem_map.1 hx
    have := hid j (List.mem_range.1 hj)
    omega
  have hnd2 : (0 :: (List.range k).map fun j => (l.getD j .zero).id.toNat).Nodup := List.nodup_cons.2 ⟨h0, hnd⟩
  have hle : (0 :: (List.range k).map fun j => (l.getD j .zero).id.toNat).length ≤ (List.range 33).length := by
    refine List.Nodup.length_le_of_subset hnd2 ?_
    intro x hx
    rcases List.mem_cons.1 hx with rfl | hx
    · exact List.mem_range.2 (by omega)
    · exact hsub hx
  simp at hle
  omega
end Go.Proofs.YtmdfjhnibhmdkafDoor
