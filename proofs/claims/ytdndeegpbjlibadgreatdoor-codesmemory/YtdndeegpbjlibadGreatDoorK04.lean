import Derived.Test.YtdndeegpbjlibadGreatDoorK01
import Derived.Deep.RegionLaw
import Derived.Test.YtdndeegpbjlibadGreatDoorK03
namespace Go.Proofs.YtdndeegpbjlibadGreatDoor
open Go.RowKit

/-- 'append(out, y)' as a step of a region that draws its order. -/
theorem step_push {W : World} {ops : Array Oper} {o : Oper} {a : Act} {K : Act → World → Prop} {Q : Exit → Act → World → Prop} {E : Prop} {v : Value} {L : List Int} (B : Nat) (w00 : World) (g : Nat) (y : Int) (hown : Own W B v L) (hgd : o.guard = none) (s x : Operand)
    (ho : o.op = .call { callee := .builtin .append, args := #[s, x], argTypes := #[22, 22] }) (hs : a.eval s = v) (hx : a.eval x = .slice (some ⟨g, 0, none⟩) 1 1) (hcell : W.cell? ⟨g, 0, none⟩ = some (.int .u8 y)) (hlen : L.length < 70368744177664) (hbel : Below B w00 W) (hB : B ≤ W.heap.size)
    (h : ∀ v' w', Own w' B v' (L ++ [y]) → Below B w00 w' → K (a.put o.dst v') w') : if Region.wanted o (yielded ops a.tmps) = true then Oper.wp Tryz.prog o a W K Q else E := by
  have hw : Region.wanted o (yielded ops a.tmps) = true := by simp [Region.wanted, hgd]
  rw [if_pos hw]
  obtain ⟨i0, hi, hz0, hz1, hz2⟩ := info_parts Tryz.info5
  refine wp_append_own W s x 22 ho B 5 i0 (.int .u8 0) 1 1 Tryz.underlying22 hi hz0 hz1 hz2 rfl (by decide) v _ _ hs hown ⟨g, 0, none⟩ 1 1 [.int .u8 y] hx rfl ?_ ?_ ?_ ?_ hB ?_
  · intro j u hj
    match j, hj with
    | 0, hj =>
      simp at hj
      subst hj
      simpa [Addr.add] using hcell
  · intro u hu; simp at hu; subst hu; rfl
  · unfold maxLen; omega
  · omega
  · intro v' w' h1 h2 _
    exact h v' w' (Own.snoc h1) (hbel.grown h2 hB (own_blocks hown))

/-- The one cell of a block that was just laid. -/
theorem cell_one (w : World) (x : Value) (T : TypeId) : (w.alloc (.cells #[x] T)).drew.cell? ⟨w.heap.size, 0, none⟩ = some x := by
  show (w.alloc (.cells #[x] T)).cell? _ = _
  rw [cell_of_row _ _ _ _ _ _ (heap_alloc_new w _)]; rfl

end Go.Proofs.YtdndeegpbjlibadGreatDoor

namespace Go.Proofs.YtdndeegpbjlibadGreatDoor
open Go.ChangeShapes Go.WideShapes Go.ChangeAt Go.RowKit

/-- 'append(out, y)' of numbers as a step of a region that draws its order. -/
theorem step_pushJ {W : World} {ops : Array Oper} {o : Oper} {a : Act} {K : Act → World → Prop} {Q : Exit → Act → World → Prop} {E : Prop} {v : Value} {L : List Int} (B : Nat) (w00 : World) (g : Nat) (y : Int) (hown : OwnI W B v L) (hgd : o.guard = none) (s x : Operand)
    (ho : o.op = .call { callee := .builtin .append, args := #[s, x], argTypes := #[23, 23] }) (hs : a.eval s = v) (hx : a.eval x = .slice (some ⟨g, 0, none⟩) 1 1) (hcell : W.cell? ⟨g, 0, none⟩ = some (.int .i64 y)) (hlen : L.length < 8796093022208) (hbel : Below B w00 W) (hB : B ≤ W.heap.size)
    (h : ∀ v' w', OwnI w' B v' (L ++ [y]) → Below B w00 w' → K (a.put o.dst v') w') : if Region.wanted o (yielded ops a.tmps) = true then Oper.wp Tryz.prog o a W K Q else E := by
  have hw : Region.wanted o (yielded ops a.tmps) = true := by simp [Region.wanted, hgd]
  rw [if_pos hw]
  obtain ⟨i0, hi, hz0, hz1, hz2⟩ := info_parts Tryz.info3
  refine wp_append_own W s x 23 ho B 3 i0 (.int .i64 0) 1 8 Tryz.underlying23 hi hz0 hz1 hz2 rfl (by decide) v _ _ hs hown ⟨g, 0, none⟩ 1 1 [.int .i64 y] hx rfl ?_ ?_ ?_ ?_ hB ?_
  · intro j u hj
    match j, hj with
    | 0, hj =>
      simp at hj
      subst hj
      simpa [Addr.add] using hcell
  · intro u hu; simp at hu; subst hu; rfl
  · unfold maxLen; omega
  · omega
  · intro v' w' h1 h2 _
    exact h v' w' (OwnI.snoc h1) (hbel.grown h2 hB (ownI_blocks hown))


end Go.Proofs.YtdndeegpbjlibadGreatDoor

namespace Go.Proofs.YtdndeegpbjlibadGreatDoor
open Go.RowKit

/-- The row behind a copy: M's first n laid over L from place off on. -/
def laidOver (L : List Int) (off : Nat) (M : List Int) : List Int := L.take off ++ (M ++ L.drop (off + M.length))

theorem Tryz.one5 : (Tryz.prog.info? 5).map (·.size) = some 1 := by kernel_rfl

/-- A row of one's own that has no spare room is known whole. -/
theorem Own.whole {w : World} {B g N : Nat} {L : List Int} (h : Own w B (.slice (some ⟨g, 0, none⟩) N N) L) : w.heap[g]? = some (.cells (L.map (Value.int .u8)).toArray 5 (0, 0)) ∧ B ≤ g ∧ N ≤ maxLen := by
  have hl := h.len
  rcases h.2 with ⟨h', _⟩ | ⟨g', cap, cur, h', hB, hg, _, hm, hcs, ht⟩
  · simp at h'
  · simp only [Value.slice.injEq, Option.some.injEq, Addr.mk.injEq, and_true] at h'
    obtain ⟨rfl, _, rfl⟩ := h'
    refine ⟨?_, hB, hm⟩
    rw [hg, ← ht, List.take_of_length_le (by simp; omega)]

theorem own_of_whole {w : World} {B g N : Nat} {L : List Int} (hg : w.heap[g]? = some (.cells (L.map (Value.int .u8)).toArray 5 (0, 0))) (hB : B ≤ g) (hl : L.length = N) (hm : N ≤ maxLen) : Own w B (.slice (some ⟨g, 0, none⟩) N N) L := by
  subst hl
  exact ⟨by simp, .inr ⟨g, _, _, rfl, hB, hg, Nat.le_refl _, hm, by simp, List.take_of_length_le (by simp)⟩⟩

theorem run_copy_own {w : World} {B g N : Nat} {L M : List Int} {ad : Option Addr} (hown : Own w B (.slice (some ⟨g, 0, none⟩) N N) L) (hrd : Rd .u8 w ad M) (ty : TypeId) (dp : Option Addr) (dLen dCap sCap off n : Nat) (hmin : n = min M.length dLen)
    (hdp : 0 < n → dp = some ⟨g, off, none⟩) (hfit : off + n ≤ N) :
    ∃ w', (Builtin.copy_ #[22, 22] ty #[.slice dp dLen dCap, .slice ad M.length sCap]).run Tryz.prog w = .ok (goInt n) w' ∧
      Own w' B (.slice (some ⟨g, 0, none⟩) N N) (laidOver L off (M.take n)) ∧ w.grownBy w' (some g) := by
  obtain ⟨hg, hB, hm⟩ := hown.whole
  have hl := hown.len
  by_cases h0 : n = 0
  · refine ⟨w, ?_, ?_, ⟨rfl, rfl, rfl, Nat.le_refl _, fun _ _ _ => rfl⟩⟩
    · rw [h0]
      exact run_copy_none (P := Tryz.prog) w 22 22 ty 5 dp ad dLen dCap M.length sCap Tryz.underlying22 Tryz.one5 (hmin.symm.trans h0)
    · rw [h0]
      simpa [laidOver] using hown
  · obtain rfl := hdp (by omega)
    have hM : M ≠ [] := by rintro rfl; simp at hmin; omega
    obtain ⟨b, o, rfl, hc⟩ := hrd hM
    have hn : ((M.take n).map (Value.int .u8)).length = n := by simp; omega
    have hrun := run_copy_row (P := Tryz.prog) w 22 22 ty 5 g off dLen dCap ⟨b, o, none⟩ M.length sCap _ 5 ((M.take n).map (Value.int .u8)) Tryz.underlying22 Tryz.one5 hg (hn.trans hmin) ?_ ?_ ?_
    · rw [hn] at hrun
      refine ⟨_, hrun, ?_, ⟨rfl, rfl, rfl, by simp, fun k _ hk => setRow_other w g k _ (fun e => hk (by simp [e]))⟩⟩
      refine own_of_whole ?_ hB ?_ hm
      · refine (setRow_heap w g _ _ 5 _ hg).trans ?_
        have hlen : (M.take n).length = n := by simp; omega
        simp [laidOver, hlen]
      · simp [laidOver]; omega
    · intro j u hj
      have hjl : j < n := by
        rcases Nat.lt_or_ge j n with h' | h'
        · exact h'
        · rw [List.getElem?_eq_none (by rw [hn]; exact h')] at hj; cases hj
      have e1 : (⟨b, o, none⟩ : Addr).add j = ⟨b, o + j, none⟩ := by unfold Addr.add; split <;> simp_all
      have hjM : j < M.length := by omega
      rw [e1, hc j hjM, ← hj]
      simp [List.getD, hjM, hjl]
    · rw [hn]; simp; omega
    · intro u hu
      obtain ⟨y, _, rfl⟩ := List.mem_map.1 hu
      rfl

/-- 'copy(d, s)', d lying in a row of one's own that has no spare room. -/
theorem wpList_copyBytes {w : World} {ops : Array Oper} {rest : List Oper} {o : Oper} {a : Act} {Q : Exit → Act → World → Prop} {B g N : Nat} {L M : List Int} {ad : Option Addr} (w00 : World) (hown : Own w B (.slice (some ⟨g, 0, none⟩) N N) L) (hrd : Rd .u8 w ad M)
    (hgd : o.guard = none) (d s : Operand) (ho : o.op = .call { callee := .builtin .copy, args := #[d, s], argTypes := #[22, 22] }) (dp : Option Addr) (dLen dCap sCap off n : Nat) (hmin : n = min M.length dLen) (hd : a.eval d = .slice dp dLen dCap) (hs : a.eval s = .slice ad M.length sCap)
    (hdp : 0 < n → dp = some ⟨g, off, none⟩) (hfit : off + n ≤ N) (hbel : Below B w00 w)
    (h : ∀ w', Own w' B (.slice (some ⟨g, 0, none⟩) N N) (laidOver L off (M.take n)) → Below B w00 w' → w.heap.size ≤ w'.heap.size → wpList Tryz.prog ops Q rest (a.put o.dst (goInt n)) w') :
    wpList Tryz.prog ops Q (o :: rest) a w := by
  obtain ⟨w', hrun, h1, h2⟩ := run_copy_own hown hrd o.type dp dLen dCap sCap off n hmin hdp hfit
  refine wpList_plain hgd fun K hK => ?_
  unfold Oper.wp
  simp [execOp, ho, resolve, invoke, builtin, hd, hs, hrun, Result.andThen]
  have hB := hown.block
  exact hK _ _ (h w' h1 (hbel.grown h2 (by omega) (by intro k hk; simp at hk; omega)) h2.size)

/-- The same as a step of a region that draws its order. -/
theorem step_copyBytes {w : World} {ops : Array Oper} {o : Oper} {a : Act} {K : Act → World → Prop} {Q : Exit → Act → World → Prop} {E : Prop} {B g N : Nat} {L M : List Int} {ad : Option Addr} (w00 : World) (hown : Own w B (.slice (some ⟨g, 0, none⟩) N N) L) (hrd : Rd .u8 w ad M)
    (hgd : o.guard = none) (d s : Operand) (ho : o.op = .call { callee := .builtin .copy, args := #[d, s], argTypes := #[22, 22] }) (dp : Option Addr) (dLen dCap sCap off n : Nat) (hmin : n = min M.length dLen) (hd : a.eval d = .slice dp dLen dCap) (hs : a.eval s = .slice ad M.length sCap)
    (hdp : 0 < n → dp = some ⟨g, off, none⟩) (hfit : off + n ≤ N) (hbel : Below B w00 w)
    (h : ∀ w', Own w' B (.slice (some ⟨g, 0, none⟩) N N) (laidOver L off (M.take n)) → Below B w00 w' → w.heap.size ≤ w'.heap.size → K (a.put o.dst (goInt n)) w') :
    if Region.wanted o (yielded ops a.tmps) = true then Oper.wp Tryz.prog o a w K Q else E := by
  have hw : Region.wanted o (yielded ops a.tmps) = true := by simp [Region.wanted, hgd]
  rw [if_pos hw]
  obtain ⟨w', hrun, h1, h2⟩ := run_copy_own hown hrd o.type dp dLen dCap sCap off n hmin hdp hfit
  unfold Oper.wp
  simp [execOp, ho, resolve, invoke, builtin, hd, hs, hrun, Result.andThen]
  have hB := hown.block
  exact h w' h1 (hbel.grown h2 (by omega) (by intro k hk; simp at hk; omega)) h2.size

end Go.Proofs.YtdndeegpbjlibadGreatDoor
