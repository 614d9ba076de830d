import Derived.Test.YtbmdjfolfmgmmagGdB
import Derived.ArgAppend
namespace Go.Proofs.Ytbmdjfolfmgmmag
open Go.ChangeShapes Go.WideShapes Go.ChangeAt Go.RowKit

/-! PACKETS: texts that wait, in the midst of a block. -/

def blkG : Value → List Nat
  | .slice (some a) _ _ => [a.block]
  | _ => []
/-- Texts that lie in a block's midst, room behind them. -/
def Mid (w : World) (v : Value) (L : List ByteArray) : Prop :=
  (v = .slice none 0 0 ∧ L = []) ∨ ∃ g o c cur, v = .slice (some ⟨g, o, none⟩) L.length c ∧ At w g 9 cur ∧ L.length ≤ c ∧ c ≤ maxLen ∧ o + c ≤ cur.length ∧ ∀ i, i < L.length → cur[o + i]? = some (.string (L.getD i ByteArray.empty))
theorem Mid.kept {w w' : World} {v : Value} {L : List ByteArray} {S : List Nat} (h : Mid w v L) (hk : Kept S w w') (hn : ∀ x ∈ blkG v, x ∉ S) : Mid w' v L := by
  rcases h with h | ⟨g, o, c, cur, rfl, hA, r⟩
  · exact .inl h
  · exact .inr ⟨g, o, c, cur, rfl, hA.kept hk (hn g (by simp [blkG])), r⟩
theorem Mid.lt {w : World} {v : Value} {L : List ByteArray} (h : Mid w v L) : ∀ x ∈ blkG v, x < w.heap.size := by
  rcases h with ⟨rfl, _⟩ | ⟨g, o, c, cur, rfl, hA, r⟩
  · intro x hx; simp [blkG] at hx
  · intro x hx
    simp only [blkG, List.mem_singleton] at hx
    subst hx
    exact hA.lt
theorem Mid.shape {w : World} {v : Value} {L : List ByteArray} (h : Mid w v L) : ∃ a c, v = .slice a L.length c ∧ L.length ≤ c ∧ c ≤ maxLen := by
  rcases h with ⟨rfl, rfl⟩ | ⟨g, o, c, cur, rfl, hA, r1, r2, _⟩
  · exact ⟨none, 0, rfl, Nat.le_refl _, by unfold maxLen; omega⟩
  · exact ⟨_, c, rfl, r1, r2⟩
theorem Mid.txs {w : World} {a : Option Addr} {n c : Nat} {L : List ByteArray} (h : Mid w (.slice a n c) L) : Txs w a L := by
  intro hne
  rcases h with ⟨_, h0⟩ | ⟨g, o, c, cur, h', hA, r1, r2, r3, r4⟩
  · exact absurd h0 hne
  · simp only [Value.slice.injEq] at h'
    obtain ⟨rfl, _, _⟩ := h'
    exact ⟨g, o, rfl, fun i hi => by rw [hA.cell, r4 i hi]⟩
theorem mid_row {w : World} {B n : Nat} {v : Value} {L : List ByteArray} (h : w.ownsRow B 9 1 v n (L.map Value.string)) : Mid w v L := by
  have hl : L.length = n := by have := h.1; simpa using this
  rcases h.2 with ⟨rfl, h0⟩ | ⟨g, cap, cur, rfl, _, hg, h1, h2, h3, h4⟩
  · exact .inl ⟨rfl, List.eq_nil_of_length_eq_zero (by omega)⟩
  · refine .inr ⟨g, 0, cap, cur.toList, by rw [hl], by unfold At; rw [Array.toArray_toList]; exact hg, by omega, h2, by simp [h3], fun i hi => ?_⟩
    have e : cur.toList[i]? = (L.map Value.string)[i]? := by
      rw [← h4, List.getElem?_take_of_lt (by omega)]
    rw [Nat.zero_add, e]
    simp [List.getD, hi]
theorem getD_snocG (L : List ByteArray) (x : ByteArray) (i : Nat) : (L ++ [x]).getD i ByteArray.empty = if i = L.length then x else L.getD i ByteArray.empty := by
  by_cases h : i < L.length
  · rw [if_neg (by omega)]
    simp [List.getD, List.getElem?_append_left h]
  · by_cases h2 : i = L.length
    · subst h2
      simp [List.getD]
    · rw [if_neg h2]
      simp [List.getD, List.getElem?_eq_none (show (L ++ [x]).length ≤ i by simp; omega), List.getElem?_eq_none (show L.length ≤ i by omega)]
theorem getD_mapG (L : List ByteArray) (j : Nat) (u : Value) (h : (L.map Value.string)[j]? = some u) : u = .string (L.getD j ByteArray.empty) ∧ j < L.length := by
  simp only [List.getElem?_map, Option.map_eq_some_iff] at h
  obtain ⟨y, hy, rfl⟩ := h
  obtain ⟨h1, h2⟩ := List.getElem?_eq_some_iff.1 hy
  exact ⟨by simp [List.getD, h1, h2], h1⟩
/-- One text more. -/
theorem run_pushMid {w : World} {v : Value} {L : List ByteArray} (h : Mid w v L) (x : ByteArray) (t ty : TypeId) (ht : Try.prog.underlying t = some (.slice 9)) (gb : Nat) (hx : w.cell? ⟨gb, 0, none⟩ = some (.string x)) (hm : L.length < 1099511627776) :
    ∃ v' w', (Builtin.append_ #[t, t] ty #[v, .slice (some ⟨gb, 0, none⟩) 1 1]).run Try.prog w = .ok v' w' ∧ Mid w' v' (L ++ [x]) ∧ Kept (blkG v) w w' ∧ Grown w.heap.size (blkG v) (blkG v') := by
  obtain ⟨i0, hi, hz0, hz1, hz2⟩ := info_parts Try.infoTx
  have hnews : ∀ j u, [Value.string x][j]? = some u → w.cell? ((⟨gb, 0, none⟩ : Addr).add j) = some u := fun j u hj => by
    have : j = 0 := by
      have := (List.getElem?_eq_some_iff.1 hj).1
      simpa using this
    subst this
    rw [Addr.add_lit, hx]
    simpa using hj
  have hb : (L.length + 1) * 16 ≤ 140737488355328 := by omega
  have hmax : L.length + 1 ≤ maxLen := by unfold maxLen; omega
  have hnew : ∀ (v' : Value) (w' : World) (B : Nat), w'.ownsRow B 9 1 v' (L.length + 1) (L.map Value.string ++ [.string x]) → Mid w' v' (L ++ [x]) := fun v' w' B ho => mid_row (B := B) (n := L.length + 1) (by rw [List.map_append]; exact ho)
  have hbl : ∀ (v' : Value) (w' : World), w'.ownsRow w.heap.size 9 1 v' (L.length + 1) (L.map Value.string ++ [.string x]) → ∀ F, Grown w.heap.size F (blkG v') := fun v' w' ho F y hy => by
    rcases ho.2 with ⟨_, h0⟩ | ⟨g, cap, cur, rfl, hB, _⟩
    · omega
    · simp only [blkG, List.mem_singleton] at hy
      subst hy
      exact .inr hB
  rcases h with ⟨rfl, rfl⟩ | ⟨g, o, c, cur, rfl, hA, r1, r2, r3, r4⟩
  · obtain ⟨v', w', hrun, ho, hgb, _⟩ := run_append_own (P := Try.prog) w w.heap.size t ty 9 i0 _ 1 16 ht hi hz0 hz1 hz2 rfl (by omega) (.slice none 0 0) 0 [] ⟨rfl, .inl ⟨rfl, rfl⟩⟩ ⟨gb, 0, none⟩ 1 1 [.string x] rfl hnews (by simp [Value.oneCell']) hmax hb (Nat.le_refl _)
    exact ⟨v', w', hrun, hnew _ _ _ ho, ⟨hgb.os, hgb.tape, hgb.output, hgb.size, fun k hk _ => hgb.block k hk (by simp [Value.ownBlock])⟩, hbl _ _ ho _⟩
  · by_cases hr : L.length + 1 ≤ c
    · have hlt : o + L.length < cur.length := by omega
      have hrun := run_append_room_cells (P := Try.prog) w t ty 9 i0 ht hi g o L.length c ⟨gb, 0, none⟩ 1 1 [.string x] (by rw [hz1]; rfl) hnews (by simp [Value.oneCell']) hr
        (fun j hj => by
          have : j = 0 := by simpa using hj
          subst this
          rw [hz1, hA.cell, List.getElem?_eq_getElem (by omega)]
          rfl) (fun j _ => hA.free _)
      refine ⟨_, _, hrun, ?_, ?_, fun y hy => .inl hy⟩
      · refine .inr ⟨g, o, c, cur.set (o + L.length) (.string x), by simp, ?_, by simpa using hr, r2, by simpa using r3, fun i hi' => ?_⟩
        · have := hA.setCellG (o + L.length) (.string x)
          rw [hz1, Nat.mul_one]
          exact this
        · rw [getD_snocG]
          rw [List.length_append, List.length_singleton] at hi'
          by_cases he : i = L.length
          · subst he
            rw [if_pos rfl, List.getElem?_set_self hlt]
          · rw [if_neg he, List.getElem?_set_ne (by omega)]
            exact r4 i (by omega)
      · show Kept [g] w _
        rw [hz1, Nat.mul_one]
        exact (Kept.refl _ w).setCell (by simp) _
    · obtain ⟨v', w', hrun, ho, hgb⟩ := run_append_arg_grows (P := Try.prog) w t ty 9 i0 _ 1 16 ht hi hz0 hz1 hz2 rfl (by omega) ⟨g, o, none⟩ L.length c (L.map Value.string) (by simp) (fun j u hj => by
          obtain ⟨rfl, hjl⟩ := getD_mapG L j u hj
          rw [Addr.add_lit, hA.cell, r4 j hjl]) ⟨gb, 0, none⟩ 1 1 [.string x] rfl hnews (by omega) hmax hb
      exact ⟨v', w', hrun, hnew _ _ _ ho, ⟨hgb.os, hgb.tape, hgb.output, hgb.size, fun k hk _ => hgb.block k hk (by simp)⟩, hbl _ _ ho _⟩
end Go.Proofs.Ytbmdjfolfmgmmag
