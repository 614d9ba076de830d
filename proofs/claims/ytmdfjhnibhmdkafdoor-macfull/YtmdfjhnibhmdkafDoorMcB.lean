import Derived.Test.YtmdfjhnibhmdkafDoorMcA
import Derived.Test.YtmdfjhnibhmdkafDoorPush
import Derived.Deep.Cut
import Derived.BigRegion
namespace Go.Proofs.YtmdfjhnibhmdkafDoor
open Go.ChangeShapes Go.WideShapes Go.ChangeAt Go.RowKit

/-! THE PROGRAM'S Join. -/

/-- 'append(v, x, y, z)', with what else stays. -/
theorem wpList_push3g {ops : Array Oper} {rest : List Oper} {o : Oper} {a : Act} {Q : Exit → Act → World → Prop} {w0 : World} {v : Value} {L : List Int} (B : Nat) (w00 : World) (x0 x1 x2 : Int) (hown : Own w0 B v L) (hgd : o.guard = none) (s x : Operand)
    (ho : o.op = .call { callee := .builtin .append, args := #[s, x], argTypes := #[68, 68] }) (hs : a.eval s = v)
    (gx : Nat) (hgx : gx = w0.heap.size) (hx : a.eval x = .slice (some ⟨gx, 0, none⟩) 3 3) (hlen : L.length < 70368744177664) (hbel : Below B w00 w0) (hB : B ≤ w0.heap.size)
    (h : ∀ v' w', Own w' B v' (L ++ [x0, x1, x2]) → Below B w00 w' → (w0.alloc (.cells #[.int .u8 x0, .int .u8 x1, .int .u8 x2] 5)).grownBy w' v.ownBlock → wpList Tryd.prog ops Q rest (a.put o.dst v') w') : wpList Tryd.prog ops Q (o :: rest) a (w0.alloc (.cells #[.int .u8 x0, .int .u8 x1, .int .u8 x2] 5)) := by
  subst hgx
  obtain ⟨i0, hi, hz0, hz1, hz2⟩ := info_parts Tryd.info5
  have hq := heap_alloc_new w0 (.cells #[.int .u8 x0, .int .u8 x1, .int .u8 x2] 5)
  refine wpList_append_own _ hgd s x 68 ho B 5 i0 (.int .u8 0) 1 1 Tryd.underlying68 hi hz0 hz1 hz2 rfl (by decide) v _ _ hs (World.ownsRow.alloc hown _) ⟨w0.heap.size, 0, none⟩ 3 3 [.int .u8 x0, .int .u8 x1, .int .u8 x2] hx rfl ?_ ?_ ?_ ?_ ?_ ?_
  · intro j u hu
    have e1 : (⟨w0.heap.size, 0, none⟩ : Addr).add j = ⟨w0.heap.size, j, none⟩ := by unfold Addr.add; split <;> simp_all
    rw [e1, cell_of_row _ _ _ _ _ _ hq]
    simpa using hu
  · intro u hu; simp at hu; rcases hu with rfl | rfl | rfl <;> rfl
  · unfold maxLen; omega
  · omega
  · simp; omega
  · intro v' w' h1 h2 _
    exact h v' w' (Own.cat (M := [x0, x1, x2]) rfl h1) ((hbel.alloc hB _).grown h2 (by simp; omega) (own_blocks hown)) h2

/-- Noughts as a text. -/
def zeroS (n : Nat) : ByteArray := ⟨Array.replicate n 0⟩
theorem zeroS_size (n : Nat) : (zeroS n).size = n := by simp [zeroS, ByteArray.size]
theorem zeroS_bytes (n : Nat) : bytesI (zeroS n) = List.replicate n 0 := by
  unfold bytesI zeroS
  simp
theorem zero_cells (n : Nat) : Builtin.zeroCells #[Value.int .u8 0] n = (Lib.strCells (zeroS n)).toArray := by
  rw [strCells_bytes, zeroS_bytes]
  refine Array.ext (by simp [Builtin.zeroCells]) fun j h1 h2 => ?_
  simp [Builtin.zeroCells, Nat.mod_one]
set_option maxHeartbeats 1000000 in
/-- 'append(s, make([]byte, n)...)' is an append of a text of noughts. -/
theorem run_append_zeros {P : Program} (w : World) (t u st ty e : TypeId) (i : TypeInfo) (ht : P.underlying t = some (.slice e)) (hu : P.underlying u = some (.int .i64)) (hst : P.underlying st = some .string) (hi : P.info? e = some i) (hz : i.zero = some (.int .u8 0)) (hsize : i.size = 1) (hby : i.bytes = 1)
    (b : Option Addr) (sLen sCap n : Nat) (hn : sLen + n ≤ 70368744177664) :
    (Builtin.append_ #[t, u] ty #[.slice b sLen sCap, .int .i64 (n : Int)]).run P w = (Builtin.append_ #[t, st] ty #[.slice b sLen sCap, .string (zeroS n)]).run P w := by
  have hw : IntKind.i64.wrap (n : Int) = (n : Int) := by rw [IntKind.wrap_i64]; omega
  have h0 : ¬ ((n : Int) < 0) := by omega
  have h48 : ¬ ((281474976710656 : Int) < (n : Int)) := by omega
  have hz1 : (Value.int IntKind.u8 0).cells = #[Value.int .u8 0] := rfl
  have hs := zeroS_size n
  have hai : ∀ (m : Int) (W : World), (asInt (.int .i64 m)).run P W = .ok m W := fun m W => by simp [asInt, asIntOf]
  have hw0 : IntKind.i64.wrap 0 = 0 := by decide
  by_cases hr : sLen + n ≤ sCap
  · by_cases hn0 : n = 0
    · subst hn0
      have hf := Lib.run_firstCells_string (P := P) w 1 (zeroS 0)
      have he : Lib.strCells (zeroS 0) = [] := rfl
      rw [hs, he] at hf
      have hr' : sLen ≤ sCap := hr
      simp [Builtin.append_, run_underlying ht, run_underlying hu, run_underlying hst, sizeOf, typeInfo, hi, hsize, hby, Builtin.lenOf, hs, hf, hai, hw0, hr']
    · have hf := Lib.run_firstCells_string (P := P) w 1 (zeroS n)
      rw [hs] at hf
      simp [Builtin.append_, run_underlying ht, run_underlying hu, run_underlying hst, sizeOf, typeInfo, zeroValue, hi, hz, hsize, hby, Builtin.lenOf, hs, hf, hai, hw, h0, h48, hr, hn0, hz1, zero_cells]
  · have h63 : ¬ (9223372036854775807 < ((sLen : Int) + (n : Int))) := by omega
    have hg := growslice_fits (need := sLen + n) (old := sCap) (bytes := 1) (by omega) (by omega)
    rw [Nat.mul_one] at hg
    have hg' : ¬ (281474976710656 < Builtin.nextslicecap (sLen + n) sCap) := by omega
    by_cases hn0 : n = 0
    · subst hn0
      have hf : ∀ W : World, (Builtin.firstCells 1 0 (.string (zeroS 0))).run P W = .ok #[] W := fun W => by
        have hf := Lib.run_firstCells_string (P := P) W 1 (zeroS 0)
        have he : Lib.strCells (zeroS 0) = [] := rfl
        rw [hs, he] at hf
        exact hf
      have hr' : ¬ sLen ≤ sCap := hr
      have h63' : ¬ (9223372036854775807 < (sLen : Int)) := by omega
      have hg'' : ¬ (281474976710656 < Builtin.nextslicecap sLen sCap) := hg'
      simp [Builtin.append_, run_underlying ht, run_underlying hu, run_underlying hst, sizeOf, typeInfo, zeroValue, hi, hz, hsize, hby, Builtin.lenOf, hs, hf, hai, hw0, hr', h63', hg'']
    · have hf : ∀ W : World, (Builtin.firstCells 1 n (.string (zeroS n))).run P W = .ok (Lib.strCells (zeroS n)).toArray W := fun W => by
        have hf := Lib.run_firstCells_string (P := P) W 1 (zeroS n)
        rw [hs] at hf
        exact hf
      simp [Builtin.append_, run_underlying ht, run_underlying hu, run_underlying hst, sizeOf, typeInfo, zeroValue, hi, hz, hsize, hby, Builtin.lenOf, hs, hf, hai, hw, h0, h48, hr, h63, hg', hn0, hz1, zero_cells]
/-- 'append(v, make([]byte, n)...)'. -/
theorem wpList_pushZ {ops : Array Oper} {rest : List Oper} {o : Oper} {a : Act} {Q : Exit → Act → World → Prop} {w0 : World} {v : Value} {L : List Int} (B : Nat) (w00 : World) (n : Nat) (hown : Own w0 B v L) (hgd : o.guard = none) (s x : Operand)
    (ho : o.op = .call { callee := .builtin .append, args := #[s, x], argTypes := #[68, 3] }) (hs : a.eval s = v)
    (N : Int) (hx : a.eval x = .int .i64 N) (hN : N = (n : Int)) (hlen : L.length + n ≤ 70368744177664) (hbel : Below B w00 w0) (hB : B ≤ w0.heap.size)
    (h : ∀ v' w', Own w' B v' (L ++ List.replicate n 0) → Below B w00 w' → wpList Tryd.prog ops Q rest (a.put o.dst v') w') : wpList Tryd.prog ops Q (o :: rest) a w0 := by
  subst hN
  obtain ⟨i0, hi, hz0, hz1, hz2⟩ := info_parts Tryd.info5
  obtain ⟨b, c, e, -, -, -⟩ := Own.shape hown
  subst e
  refine wpList_plain hgd fun K hK => ?_
  have hsz := zeroS_size n
  obtain ⟨v', w', hr, h2, h3, h4⟩ := Lib.run_append_own_string (P := Tryd.prog) w0 B 68 9 o.type 5 i0 Tryd.underlying68 Tryd.underlying9 hi hz0 hz1 hz2 _ _ _ hown (zeroS n) (by rw [hsz]; unfold maxLen; omega) (by rw [hsz]; omega) hB
  rw [← run_append_zeros w0 68 3 9 o.type 5 i0 Tryd.underlying68 Tryd.underlying3 Tryd.underlying9 hi hz0 hz1 hz2 b L.length c n hlen] at hr
  unfold Oper.wp execOp
  simp only [ho, resolve, invoke, builtin, Sem.run_bind, Sem.run_pure, Result.andThen_ok, List.map_toArray, List.map_cons, List.map_nil, hs, hx, hr]
  refine hK _ _ (h v' w' ?_ (hbel.grown h3 hB (own_blocks hown)))
  rw [strCells_bytes, zeroS_bytes, hsz] at h2
  exact Own.cat (M := List.replicate n 0) (by simp) h2
end Go.Proofs.YtmdfjhnibhmdkafDoor
