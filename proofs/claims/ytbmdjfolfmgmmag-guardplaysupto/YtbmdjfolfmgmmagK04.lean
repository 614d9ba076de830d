import Derived.Test.YtbmdjfolfmgmmagK02
import Derived.Test.YtbmdjfolfmgmmagK01
namespace Go.Proofs.Ytbmdjfolfmgmmag
def zb (zs : List Int) (j : Nat) : Bool := decide (zs.getD j 0 = 1)
/-- What stands at place j when i places are divided out. -/
def cellB (W P : Nat) (zs : List Int) (i j : Nat) : Bool := if j < i then false else (zb zs j ^^ (decide (j < i + W) && (crc W P (zs.take i)).testBit (W - 1 - (j - i))))
theorem zb_bit {zs : List Int} (h : Bits zs) (j : Nat) : decide ((zs.getD j 0).toNat = 1) = zb zs j := by
  have := h j
  unfold zb
  rw [decide_eq_decide]
  omega
theorem b2i_zb {zs : List Int} (h : Bits zs) (j : Nat) : b2i (zb zs j) = zs.getD j 0 := by
  have := h j
  unfold zb b2i
  by_cases e : zs.getD j 0 = 1
  · rw [e]; rfl
  · have e0 : zs.getD j 0 = 0 := by omega
    rw [e0]; rfl
theorem cell_top {W P : Nat} (hD : Div W P) {zs : List Int} (h : Bits zs) (i : Nat) : cellB W P zs i i = topBit W (crc W P (zs.take i)) (zs.getD i 0).toNat := by
  have hW := hD.pos
  unfold cellB topBit
  rw [if_neg (Nat.lt_irrefl _), zb_bit h i, Nat.sub_self]
  have : decide (i < i + W) = true := by simp; omega
  rw [this, Bool.true_and, Bool.xor_comm]
  rfl
theorem cell_step {W P : Nat} (hD : Div W P) {zs : List Int} (h : Bits zs) {i : Nat} (hi : i < zs.length) (j : Nat) :
    cellB W P zs (i + 1) j = (cellB W P zs i j ^^ (decide (i ≤ j ∧ j ≤ i + W) && (cellB W P zs i i && P.testBit (W - (j - i))))) := by
  have hW := hD.pos
  have hx : (zs.getD i 0).toNat ≤ 1 := by have := h i; omega
  have ht := cell_top hD h i
  have hc : ∀ p, (crc W P (zs.take (i + 1))).testBit p = (((decide (0 < p) && (crc W P (zs.take i)).testBit (p - 1)) ^^ (decide (p = W) && decide ((zs.getD i 0).toNat = 1))) ^^ (cellB W P zs i i && P.testBit p)) := fun p => by
    rw [crc_take W P zs i hi, step_bit hD _ _ p hx, fed_bit _ _ _ p hx, ← ht]
  generalize htt : cellB W P zs i i = t at *
  by_cases h1 : j < i
  · have e1 : decide (i ≤ j ∧ j ≤ i + W) = false := by simp; omega
    rw [e1]
    unfold cellB
    rw [if_pos (by omega), if_pos h1]
    rfl
  · by_cases h2 : j = i
    · subst h2
      have e1 : decide (j ≤ j ∧ j ≤ j + W) = true := by simp
      rw [e1, Nat.sub_self, Nat.sub_zero, hD.top, htt]
      unfold cellB
      rw [if_pos (by omega)]
      cases t <;> rfl
    · have hji : i < j := by omega
      by_cases h3 : j ≤ i + W
      · have e1 : decide (i ≤ j ∧ j ≤ i + W) = true := by simp; omega
        rw [e1, Bool.true_and]
        unfold cellB
        rw [if_neg (by omega), if_neg h1]
        have e2 : decide (j < i + 1 + W) = true := by simp; omega
        rw [e2, Bool.true_and, show W - 1 - (j - (i + 1)) = W - (j - i) from by omega, hc]
        by_cases h4 : j = i + W
        · subst h4
          have e3 : decide (i + W < i + W) = false := by simp
          rw [e3, show W - (i + W - i) = 0 from by omega]
          have e4 : decide (0 = W) = false := by simp; omega
          rw [e4]
          simp
        · have e3 : decide (j < i + W) = true := by simp; omega
          have e5 : decide (0 < W - (j - i)) = true := by simp; omega
          have e6 : decide (W - (j - i) = W) = false := by simp; omega
          rw [e3, e5, e6, show W - (j - i) - 1 = W - 1 - (j - i) from by omega]
          simp
      · have e1 : decide (i ≤ j ∧ j ≤ i + W) = false := by simp; omega
        rw [e1, Bool.false_and, Bool.xor_false]
        unfold cellB
        rw [if_neg (by omega), if_neg h1]
        have e2 : decide (j < i + 1 + W) = false := by simp; omega
        have e3 : decide (j < i + W) = false := by simp; omega
        rw [e2, e3]
        rfl
/-- The row when i places are divided out. -/
def lrow (W P : Nat) (zs : List Int) (i : Nat) : List Int := (List.range (zs.length + W)).map fun j => b2i (cellB W P zs i j)
/-- Is place j among those that the first m places of the divisor turn? -/
def turned (W : Nat) (D : List Int) (i m j : Nat) : Bool := (D.take m).any fun d => decide ((i : Int) + W - d = j)
def mrow (W P : Nat) (D : List Int) (zs : List Int) (i m : Nat) : List Int := (List.range (zs.length + W)).map fun j => b2i (cellB W P zs i j ^^ turned W D i m j)
theorem lrow_length (W P : Nat) (zs : List Int) (i : Nat) : (lrow W P zs i).length = zs.length + W := by simp [lrow]
theorem mrow_zero (W P : Nat) (D zs : List Int) (i : Nat) : mrow W P D zs i 0 = lrow W P zs i := by simp [mrow, lrow, turned]
theorem lrow_getD (W P : Nat) (zs : List Int) (i j : Nat) (h : j < zs.length + W) : (lrow W P zs i).getD j 0 = b2i (cellB W P zs i j) := by simp [lrow, List.getD, h]
theorem mrow_getD (W P : Nat) (D zs : List Int) (i m j : Nat) (h : j < zs.length + W) : (mrow W P D zs i m).getD j 0 = b2i (cellB W P zs i j ^^ turned W D i m j) := by simp [mrow, List.getD, h]
/-- The places of a divisor, as a list. -/
structure Places' (W P : Nat) (D : List Int) : Prop where
  bd : ∀ d ∈ D, 0 ≤ d ∧ d ≤ (W : Int)
  once : ∀ m, m < D.length → (D.take m).any (fun d => decide (d = D.getD m 0)) = false
  all : ∀ p, p ≤ W → P.testBit p = D.any fun d => decide (d = (p : Int))
theorem turned_succ (W : Nat) (D : List Int) (i m j : Nat) (hm : m < D.length) : turned W D i (m + 1) j = (turned W D i m j || decide ((i : Int) + W - D.getD m 0 = j)) := by
  unfold turned
  rw [List.take_succ_eq_append_getElem hm, List.any_append]
  simp [List.getD, hm]
theorem turned_not {W P : Nat} {D : List Int} (hP : Places' W P D) (i m : Nat) (hm : m < D.length) (j : Nat) (hj : (j : Int) = (i : Int) + W - D.getD m 0) : turned W D i m j = false := by
  have := hP.once m hm
  unfold turned
  rw [List.any_eq_false] at this ⊢
  intro d hd
  have h := this d hd
  simp only [decide_eq_true_eq] at h ⊢
  rw [hj]
  omega
theorem turned_all {W P : Nat} {D : List Int} (hP : Places' W P D) (i j : Nat) : turned W D i D.length j = (decide (i ≤ j ∧ j ≤ i + W) && P.testBit (W - (j - i))) := by
  unfold turned
  rw [List.take_length]
  by_cases h : i ≤ j ∧ j ≤ i + W
  · rw [decide_eq_true h, Bool.true_and, hP.all _ (by omega)]
    congr 1
    funext d
    rw [decide_eq_decide]
    omega
  · rw [decide_eq_false h, Bool.false_and, List.any_eq_false]
    intro d hd
    have := hP.bd d hd
    simp
    omega
theorem mrow_set {W P : Nat} {D : List Int} (hP : Places' W P D) (zs : List Int) (i m j : Nat) (hm : m < D.length) (hj : (j : Int) = (i : Int) + W - D.getD m 0) (x : Int) (hx : x = 1 - (mrow W P D zs i m).getD j 0) (hjl : j < zs.length + W) :
    (mrow W P D zs i m).set j x = mrow W P D zs i (m + 1) := by
  refine List.ext_getElem (by simp [mrow]) fun q h1 h2 => ?_
  have hq : q < zs.length + W := by simpa [mrow] using h2
  rw [List.getElem_set]
  have hn := turned_not hP i m hm j hj
  split
  · rename_i e
    subst e
    rw [hx, mrow_getD _ _ _ _ _ _ _ hjl, hn]
    have : turned W D i (m + 1) j = true := by rw [turned_succ _ _ _ _ _ hm]; simp [hj]
    simp only [mrow, List.getElem_map, List.getElem_range]
    rw [this]
    cases cellB W P zs i j <;> rfl
  · rename_i e
    simp only [mrow, List.getElem_map, List.getElem_range]
    rw [turned_succ _ _ _ _ _ hm]
    have : decide ((i : Int) + W - D.getD m 0 = (q : Int)) = false := decide_eq_false (by omega)
    rw [this, Bool.or_false]
theorem mrow_all {W P : Nat} {D : List Int} (hD : Div W P) (hP : Places' W P D) {zs : List Int} (h : Bits zs) {i : Nat} (hi : i < zs.length) (ht : cellB W P zs i i = true) : mrow W P D zs i D.length = lrow W P zs (i + 1) := by
  unfold mrow lrow
  refine List.map_congr_left fun j _ => ?_
  rw [cell_step hD h hi j, ht, Bool.true_and, turned_all hP]
theorem lrow_same {W P : Nat} (hD : Div W P) {zs : List Int} (h : Bits zs) {i : Nat} (hi : i < zs.length) (ht : cellB W P zs i i = false) : lrow W P zs i = lrow W P zs (i + 1) := by
  unfold lrow
  refine List.map_congr_left fun j _ => ?_
  rw [cell_step hD h hi j, ht, Bool.false_and, Bool.and_false, Bool.xor_false]
theorem lrow_zero {W P : Nat} {zs : List Int} (h : Bits zs) : lrow W P zs 0 = zs ++ List.replicate W 0 := by
  refine List.ext_getElem (by simp [lrow]) fun j h1 h2 => ?_
  simp only [lrow, List.getElem_map, List.getElem_range]
  have e : cellB W P zs 0 j = zb zs j := by
    unfold cellB
    rw [if_neg (by omega), List.take_zero]
    simp [crc]
  rw [e, b2i_zb h]
  by_cases hj : j < zs.length
  · rw [List.getElem_append_left hj]
    simp [List.getD, hj]
  · rw [List.getElem_append_right (by omega), List.getElem_replicate]
    simp [List.getD, Nat.le_of_not_lt hj]
theorem lrow_end (W P : Nat) (zs : List Int) : (lrow W P zs zs.length).drop zs.length = sumL W P zs := by
  refine List.ext_getElem (by simp [lrow, sumL, sumTo]) fun j h1 h2 => ?_
  have hj : j < W := by simpa [sumL, sumTo] using h2
  rw [List.getElem_drop]
  simp only [lrow, sumL, sumTo, List.getElem_map, List.getElem_range]
  unfold cellB
  rw [if_neg (by omega), List.take_length]
  have e1 : zb zs (zs.length + j) = false := by simp [zb, List.getD]
  have e2 : decide (zs.length + j < zs.length + W) = true := by simp; omega
  rw [e1, e2, Bool.true_and, Bool.false_xor, show zs.length + j - zs.length = j from by omega]
end Go.Proofs.Ytbmdjfolfmgmmag
namespace Go.Proofs.Ytbmdjfolfmgmmag
open Go.RowKit
theorem zeroCells_one (z : Value) (m : Nat) : Builtin.zeroCells #[z] m = (List.replicate m z).toArray := by
  apply Array.ext'
  simp [Builtin.zeroCells]
  exact List.ext_getElem (by simp) (by intro i h1 h2; simp [Nat.mod_one])
/-- 'append(v, make([]T, m)...)' (T of one cell): the translator lays it as an append of m zero elements. v nil, or a row of one's own. -/
theorem run_append_zeros {P : Program} (w : World) (base : Nat) (t ti ty e : TypeId) (i : TypeInfo) (z : Value) (bytes : Nat) (ht : P.underlying t = some (.slice e)) (hti : P.underlying ti = some (.int .i64)) (hi : P.info? e = some i)
    (hz : i.zero = some z) (hsize : i.size = 1) (hby : i.bytes = bytes) (hzs : z.cells = #[z]) (hone : z.oneCell' = true)
    (v : Value) (n : Nat) (xs : List Value) (hown : w.ownsRow base e 1 v n xs) (m : Nat) (h0 : 0 < m) (h40 : n + m ≤ 70368744177664) (hb : 0 < bytes ∧ bytes ≤ 1) (hbase : base ≤ w.heap.size) :
    ∃ v' w', (Builtin.append_ #[t, ti] ty #[v, .int .i64 m]).run P w = .ok v' w' ∧ w'.ownsRow base e 1 v' (n + m) (xs ++ List.replicate m z) ∧ w.grownBy w' v.ownBlock := by
  have hb1 : bytes = 1 := by omega
  subst hb1
  have hwrap : IntKind.i64.wrap (m : Int) = (m : Int) := by rw [IntKind.wrap_i64]; omega
  have hneg : ¬ ((m : Int) < 0) := by omega
  have hbig : ¬ (281474976710656 < (m : Int)) := by omega
  have hmax : n + m ≤ maxLen := by unfold maxLen; omega
  have hxl : xs.length = n := by simpa using hown.1
  have hm0 : m ≠ 0 := by omega
  have hlen : (xs ++ List.replicate m z).length = (n + m) * 1 := by simp [hxl]
  have grown : ∀ (old : Nat), old < n + m → ∀ (row : Option Nat),
      (w.drew.alloc (.cells (xs.toArray ++ (List.replicate m z).toArray ++ Builtin.zeroCells #[z] (grownCap w (n + m) old e - (n + m))) e)).ownsRow base e 1
        (.slice (some ⟨w.heap.size, 0, none⟩) (n + m) (grownCap w (n + m) old e)) (n + m) (xs ++ List.replicate m z) ∧
      w.grownBy (w.drew.alloc (.cells (xs.toArray ++ (List.replicate m z).toArray ++ Builtin.zeroCells #[z] (grownCap w (n + m) old e - (n + m))) e)) row := by
    intro old ho row
    have hge := grownCap_ge w (n + m) old e
    have hcm : grownCap w (n + m) old e ≤ maxLen := grownCap_le_maxLen w (n + m) old e hmax
    refine ⟨⟨hlen, .inr ⟨w.heap.size, _, _, rfl, hbase, heap_alloc_new w.drew _, hge, hcm, ?_, ?_⟩⟩, ⟨rfl, rfl, rfl, by simp, fun k hk _ => Below.heap_alloc w.drew _ k hk⟩⟩
    · simp [size_zeroCells, hxl]; omega
    · simp only [Array.toList_append, List.append_assoc]
      rw [← List.append_assoc, ← hlen]
      exact List.take_left
  rcases hown.2 with ⟨rfl, rfl⟩ | ⟨g, cap, cur, rfl, hbg, hg, hnc, hcm, hcs, htake⟩
  · have hx : xs = [] := List.eq_nil_of_length_eq_zero hxl
    subst hx
    have h63' : ¬ (9223372036854775807 < (m : Int)) := by omega
    have h48' : ¬ (281474976710656 < Builtin.nextslicecap m 0) := by rw [nextslicecap_zero h0]; omega
    have hr : (Builtin.append_ #[t, ti] ty #[.slice none 0 0, .int .i64 m]).run P w =
        .ok (.slice (some ⟨w.heap.size, 0, none⟩) m (grownCap w m 0 e)) (w.drew.alloc (.cells ((List.replicate m z).toArray ++ Builtin.zeroCells #[z] (grownCap w m 0 e - m)) e)) := by
      simp [Builtin.append_, run_underlying ht, run_underlying hti, sizeOf, typeInfo, zeroValue, hi, hz, hsize, hby, hzs, asInt, asIntOf, hwrap, hneg, hbig, hm0, h63', h48', Question.forced, run_firstCells_none, newRow, grownCap, zeroCells_one]
    have hgr := grown 0 (by omega) (Value.ownBlock (.slice none 0 0))
    simp only [Nat.zero_add, List.nil_append, Array.empty_append] at hgr ⊢
    exact ⟨_, _, hr, hgr.1, hgr.2⟩
  · by_cases hroom : n + m ≤ cap
    · have hfit : n + m ≤ cur.size := by omega
      have hst := run_storeCells_at P g n e (List.replicate m z) 0 cur w hg (by simpa using hfit) (by intro u hu; rw [List.eq_of_mem_replicate hu]; exact hone)
      simp only [Nat.add_zero] at hst
      have hr : (Builtin.append_ #[t, ti] ty #[.slice (some ⟨g, 0, none⟩) n cap, .int .i64 m]).run P w =
          .ok (.slice (some ⟨g, 0, none⟩) (n + m) cap) (w.setRow g (cur.toList.take n ++ List.replicate m z ++ cur.toList.drop (n + (List.replicate m z).length)).toArray) := by
        simp [Builtin.append_, run_underlying ht, run_underlying hti, sizeOf, typeInfo, zeroValue, hi, hz, hsize, hby, hzs, asInt, asIntOf, hwrap, hneg, hbig, hm0, hroom, zeroCells_one, Addr.add_lit, hst]
      refine ⟨_, _, hr, ⟨hlen, .inr ⟨g, cap, _, rfl, hbg, setRow_heap w g cur _ e _ hg, hroom, hcm, ?_, ?_⟩⟩, ⟨rfl, rfl, rfl, by simp, fun k _ hk => setRow_other w g k _ (fun e => hk (by simp [Value.ownBlock, e]))⟩⟩
      · simp only [List.size_toArray, List.length_append, List.length_take, List.length_drop, Array.length_toList, List.length_replicate]
        omega
      · have h1 := htake
        rw [Nat.mul_one] at h1
        rw [h1, ← hlen]
        exact List.take_left
    · have holds : ∀ j u, xs[j]? = some u → w.cell? ((⟨g, 0, none⟩ : Addr).add j) = some u := hown.cells (g := g) rfl
      have hfo := run_firstCells_some (P := P) w.drew 1 n ⟨g, 0, none⟩ n cap xs hown.1 (by simpa using holds)
      have h63' : ¬ (9223372036854775807 < (n : Int) + (m : Int)) := by omega
      have h48' : ¬ (281474976710656 < Builtin.nextslicecap (n + m) cap) := by
        have := growslice_fits (need := n + m) (old := cap) (bytes := 1) (by omega) (by omega)
        omega
      have hr : (Builtin.append_ #[t, ti] ty #[.slice (some ⟨g, 0, none⟩) n cap, .int .i64 m]).run P w =
          .ok (.slice (some ⟨w.heap.size, 0, none⟩) (n + m) (grownCap w (n + m) cap e))
            (w.drew.alloc (.cells (xs.toArray ++ (List.replicate m z).toArray ++ Builtin.zeroCells #[z] (grownCap w (n + m) cap e - (n + m))) e)) := by
        simp [Builtin.append_, run_underlying ht, run_underlying hti, sizeOf, typeInfo, zeroValue, hi, hz, hsize, hby, hzs, asInt, asIntOf, hwrap, hneg, hbig, hm0, hroom, h63', h48', Question.forced, hfo, newRow, grownCap, zeroCells_one]
      have hgr := grown cap (by omega) (Value.ownBlock (.slice (some ⟨g, 0, none⟩) n cap))
      exact ⟨_, _, hr, hgr.1, hgr.2⟩
/-- The same as a law for the walk, of lists of bytes. -/
theorem wpList_zeros {w : World} {ops : Array Oper} {rest : List Oper} {o : Oper} {a : Act} {Q : Exit → Act → World → Prop} {v : Value} {L : List Int} (B : Nat) (w00 : World) (m : Nat) (hown : Own w B v L) (hgd : o.guard = none) (s x : Operand)
    (ho : o.op = .call { callee := .builtin .append, args := #[s, x], argTypes := #[75, 3] }) (hs : a.eval s = v) (hx : a.eval x = .int .i64 m) (h0 : 0 < m) (hlen : L.length + m ≤ 70368744177664) (hbel : Below B w00 w) (hB : B ≤ w.heap.size)
    (h : ∀ v' w', Own w' B v' (L ++ List.replicate m 0) → Below B w00 w' → wpList Try.prog ops Q rest (a.put o.dst v') w') : wpList Try.prog ops Q (o :: rest) a w := by
  obtain ⟨i0, hi, hz0, hz1, hz2⟩ := info_parts Try.info5
  obtain ⟨v', w', hr, h1, h2⟩ := run_append_zeros (P := Try.prog) w B 75 3 o.type 5 i0 (.int .u8 0) 1 Try.underlying75 Try.underlying3 hi hz0 hz1 hz2 rfl rfl v _ _ hown m h0 hlen (by decide) hB
  refine wpList_plain hgd fun K hK => ?_
  unfold Oper.wp execOp
  simp only [ho, resolve, invoke, builtin, Sem.run_bind, Sem.run_pure, Result.andThen_ok, List.map_toArray, List.map_cons, List.map_nil, hs, hx, hr]
  refine hK _ _ (h v' w' ?_ (hbel.grown h2 hB (own_blocks hown)))
  unfold Own
  rw [List.length_append, List.map_append, List.length_replicate, List.map_replicate]
  exact h1
/-- 'append(v, x...)', x empty, wherever it lies. -/
theorem run_append_empty {P : Program} (w : World) (base : Nat) (t ty e : TypeId) (i : TypeInfo) (size : Nat) (ht : P.underlying t = some (.slice e)) (hi : P.info? e = some i)
    (v : Value) (n : Nat) (xs : List Value) (hown : w.ownsRow base e size v n xs) (ad : Option Addr) (c : Nat) : (Builtin.append_ #[t, t] ty #[v, .slice ad 0 c]).run P w = .ok v w := by
  rcases hown.2 with ⟨rfl, rfl⟩ | ⟨g, cap, cur, rfl, hbg, hg, hnc, _⟩
  · cases ad <;> simp [Builtin.append_, run_underlying ht, sizeOf, typeInfo, hi, Builtin.lenOf, Builtin.firstCells, loadCells, loadCellsFrom]
  · cases ad <;> simp [Builtin.append_, run_underlying ht, sizeOf, typeInfo, hi, Builtin.lenOf, Builtin.firstCells, loadCells, loadCellsFrom, hnc, storeCells]
/-- 'append(v, x...)', v a list of bytes of one's own, x one that can be read . -/
theorem wpList_cat {w : World} {ops : Array Oper} {rest : List Oper} {o : Oper} {a : Act} {Q : Exit → Act → World → Prop} {v : Value} {L M : List Int} {ad : Option Addr} (B : Nat) (w00 : World) (hown : Own w B v L) (hrd : Rd .u8 w ad M) (hgd : o.guard = none) (s x : Operand)
    (ho : o.op = .call { callee := .builtin .append, args := #[s, x], argTypes := #[75, 75] }) (hs : a.eval s = v) (c : Nat) (hx : a.eval x = .slice ad M.length c) (hlen : L.length + M.length ≤ 70368744177664) (hbel : Below B w00 w) (hB : B ≤ w.heap.size)
    (h : ∀ v' w', Own w' B v' (L ++ M) → Below B w00 w' → wpList Try.prog ops Q rest (a.put o.dst v') w') : wpList Try.prog ops Q (o :: rest) a w := by
  obtain ⟨i0, hi, hz0, hz1, hz2⟩ := info_parts Try.info5
  by_cases hne : M = []
  · subst hne
    have hr := run_append_empty (P := Try.prog) w B 75 o.type 5 i0 1 Try.underlying75 hi v _ _ hown ad c
    refine wpList_plain hgd fun K hK => ?_
    unfold Oper.wp execOp
    simp only [ho, resolve, invoke, builtin, Sem.run_bind, Sem.run_pure, Result.andThen_ok, List.map_toArray, List.map_cons, List.map_nil, hs, hx, List.length_nil, hr]
    exact hK _ _ (h v w (by rw [List.append_nil]; exact hown) hbel)
  obtain ⟨b, off, rfl, hc⟩ := hrd hne
  refine wpList_append_own _ hgd s x 75 ho B 5 i0 (.int .u8 0) 1 1 Try.underlying75 hi hz0 hz1 hz2 rfl (by decide) v _ _ hs hown ⟨b, off, none⟩ M.length c (M.map (Value.int .u8)) hx (by simp) ?_ ?_ ?_ ?_ hB ?_
  · intro j u hj
    have hjl : j < M.length := by
      rcases Nat.lt_or_ge j M.length with h' | h'
      · exact h'
      · rw [List.getElem?_eq_none (by simpa using h')] at hj; cases hj
    have e1 : (⟨b, off, none⟩ : Addr).add j = ⟨b, off + j, none⟩ := by unfold Addr.add; split <;> simp_all
    rw [e1, hc j hjl, ← hj]
    simp [List.getD, hjl]
  · intro u hu
    obtain ⟨y, _, rfl⟩ := List.mem_map.1 hu
    rfl
  · unfold maxLen; omega
  · omega
  · intro v' w' h1 h2 _
    refine h v' w' ?_ (hbel.grown h2 hB (own_blocks hown))
    unfold Own
    rw [List.length_append, List.map_append]
    exact h1
end Go.Proofs.Ytbmdjfolfmgmmag
