import Derived.Test.YtmdfjhnibhmdkafDoorSt01
import Derived.Test.YtmdfjhnibhmdkafDoorSt03
import Derived.Lib.AppendStr
import Derived.Deep.Cut
import Derived.Deep.RegionLaw
import Derived.BigRegion
namespace Go.Proofs.YtmdfjhnibhmdkafDoor
open Go.ChangeShapes Go.WideShapes Go.ChangeAt Go.RowKit
structure ItemM where
  ch : Int
  data : ByteArray
def ItemM.zero : ItemM := ⟨0, ByteArray.empty⟩
def bytesI (s : ByteArray) : List Int := s.data.toList.map fun b => (b.toNat : Int)
theorem bytesI_length (s : ByteArray) : (bytesI s).length = s.size := by
  unfold bytesI
  rw [List.length_map, Array.length_toList]
  rfl
theorem strCells_bytes (s : ByteArray) : Lib.strCells s = (bytesI s).map (Value.int .u8) := by
  unfold Lib.strCells bytesI
  rw [List.map_map]
  rfl
def ItemM.ok (t : ItemM) : Bool := decide (1 ≤ t.ch ∧ t.ch ≤ 32 ∧ t.data.size ≤ 1500)
def ItemM.head (t : ItemM) : List Int := [t.ch, ((t.data.size / 256 : Nat) : Int), ((t.data.size % 256 : Nat) : Int)]
def ItemM.bytes (t : ItemM) : List Int := t.head ++ bytesI t.data
def itemsB (l : List ItemM) : List Int := l.flatMap ItemM.bytes
theorem itemsB_take {l : List ItemM} {k : Nat} (h : k < l.length) : itemsB (l.take (k + 1)) = itemsB (l.take k) ++ (l.getD k .zero).head ++ bytesI (l.getD k .zero).data := by
  have e : l.getD k .zero = l[k] := by simp [List.getD, h]
  have e2 : l.take (k + 1) = l.take k ++ [l[k]] := List.take_succ_eq_append_getElem h
  rw [e, e2, List.append_assoc]
  unfold itemsB
  rw [List.flatMap_append, List.flatMap_singleton]
  rfl
theorem itemsB_take_le (l : List ItemM) (k : Nat) : (itemsB (l.take k)).length ≤ (itemsB l).length := by
  have h : itemsB l = itemsB (l.take k) ++ itemsB (l.drop k) := by
    unfold itemsB
    rw [← List.flatMap_append, List.take_append_drop]
  rw [h, List.length_append]
  omega
def padB (L : List Int) (n : Nat) : List Int := if L.length < n then L ++ [63] ++ List.replicate (n - L.length - 1) 0 else L
theorem padB_length {L : List Int} {n : Nat} (h : L.length ≤ n) : (padB L n).length = n := by
  unfold padB
  split
  · simp; omega
  · omega
structure JoinM where
  text : ByteArray
  err : Int
def joinM (l : List ItemM) (size : Int) : JoinM := if size < 0 ∨ 65535 < size then ⟨ByteArray.empty, 1⟩ else if l.all ItemM.ok = false then ⟨ByteArray.empty, 1⟩ else if size < ((itemsB l).length : Int) then ⟨ByteArray.empty, 2⟩ else ⟨strOfNums (padB (itemsB l) size.toNat), 0⟩
/-- Items that can be read. -/
def Itms (w : World) (a : Option Addr) (l : List ItemM) : Prop := l ≠ [] → ∃ b o, a = some ⟨b, o, none⟩ ∧ ∀ i, i < l.length → w.cell? ⟨b, o + i * 2, none⟩ = some (.int .i64 (l.getD i .zero).ch) ∧ w.cell? ⟨b, o + i * 2 + 1, none⟩ = some (.string (l.getD i .zero).data)
theorem Itms.at {w : World} {a : Option Addr} {l : List ItemM} (h : Itms w a l) {i : Nat} (hi : i < l.length) : ∃ b o, a = some ⟨b, o, none⟩ ∧ ∀ i, i < l.length → w.cell? ⟨b, o + i * 2, none⟩ = some (.int .i64 (l.getD i .zero).ch) ∧ w.cell? ⟨b, o + i * 2 + 1, none⟩ = some (.string (l.getD i .zero).data) := h (by rintro rfl; simp at hi)
theorem cellOldJ {w w' : World} (hb : Below w.heap.size w w') {p : Addr} {v : Value} (h : w.cell? p = some v) : w'.cell? p = some v := (hb.cell (World.block_lt_of_cell? w _ h)).trans h
theorem Own.cat {w : World} {B : Nat} {v : Value} {L M : List Int} {n : Nat} (hn : n = L.length + M.length) (h : w.ownsRow B 5 1 v n (L.map (Value.int .u8) ++ M.map (Value.int .u8))) : Own w B v (L ++ M) := by
  unfold Own
  rw [List.length_append, List.map_append, ← hn]
  exact h
/-- 'append(v, s...)', s a text. -/
theorem wpList_pushS {ops : Array Oper} {rest : List Oper} {o : Oper} {a : Act} {Q : Exit → Act → World → Prop} {w0 : World} {v : Value} {L : List Int} (B : Nat) (w00 : World) (t : ByteArray) (hown : Own w0 B v L) (hgd : o.guard = none) (s x : Operand)
    (ho : o.op = .call { callee := .builtin .append, args := #[s, x], argTypes := #[68, 9] }) (hs : a.eval s = v)
    (hx : a.eval x = .string t) (hlen : L.length + t.size ≤ 70368744177664) (hbel : Below B w00 w0) (hB : B ≤ w0.heap.size)
    (h : ∀ v' w', Own w' B v' (L ++ bytesI t) → Below B w00 w' → wpList Tryd.prog ops Q rest (a.put o.dst v') w') : wpList Tryd.prog ops Q (o :: rest) a w0 := by
  obtain ⟨i0, hi, hz0, hz1, hz2⟩ := info_parts Tryd.info5
  refine Lib.wpList_append_own_string w0 hgd s x 68 9 ho B 5 i0 Tryd.underlying68 Tryd.underlying9 hi hz0 hz1 hz2 v _ _ hs hown t hx (by unfold maxLen; omega) (by omega) hB ?_
  intro v' w' h1 h2 _
  rw [strCells_bytes] at h1
  exact h v' w' (Own.cat (M := bytesI t) (by rw [bytesI_length]) h1) (hbel.grown h2 hB (own_blocks hown))
end Go.Proofs.YtmdfjhnibhmdkafDoor
namespace Go.Proofs.YtmdfjhnibhmdkafDoor
open Go.ChangeShapes Go.WideShapes Go.ChangeAt Go.RowKit
theorem all_false {l : List ItemM} {k : Nat} (hk : k < l.length) (h : (l.getD k .zero).ok = false) : l.all ItemM.ok = false := by
  rw [List.all_eq_false]
  refine ⟨l[k], List.getElem_mem hk, ?_⟩
  have e : l.getD k .zero = l[k] := by simp [List.getD, hk]
  rw [← e, h]
  decide
theorem all_true {l : List ItemM} (h : ∀ j, j < l.length → (l.getD j .zero).ok = true) : l.all ItemM.ok = true := by
  rw [List.all_eq_true]
  intro x hx
  obtain ⟨i, hi, rfl⟩ := List.getElem_of_mem hx
  have := h i hi
  simpa [List.getD, hi] using this
end Go.Proofs.YtmdfjhnibhmdkafDoor
namespace Go.Proofs.YtmdfjhnibhmdkafDoor
open Go.ChangeShapes Go.WideShapes Go.ChangeAt Go.RowKit
def ItemM.err (t : ItemM) : Int := if t.ok = true then 0 else 1
theorem ItemM.err_ok {t : ItemM} (h : t.ok = true) : t.err = 0 := if_pos h
theorem ItemM.err_bad {t : ItemM} (h : t.ok = false) : t.err = 1 := if_neg (by rw [h]; decide)
set_option maxHeartbeats 1000000 in
theorem citem_any (t : ItemM) (w : World) :
    Calls Tryd.prog 41 #[.agg #[.int .i64 t.ch, .string t.data]] w fun e w' => e = .returned (.int .i64 t.err) ∧ Below w.heap.size w w' := by
  by_cases h1 : t.ch < 1
  · have x1 : decide (t.ch < 1) = true := decide_eq_true h1
    have HX := hid (ItemM.err_bad (show t.ok = false from decide_eq_false (by omega)))
    clear h1
    go_enter Tryd.func41, Tryd.ntmps41
    go_wp2
    go_ret
    exact ⟨ret_int HX.out.symm, (Below.refl _ w).alloc (Nat.le_refl _) _⟩
  · have x1 : decide (t.ch < 1) = false := decide_eq_false h1
    by_cases h2 : 32 < t.ch
    · have x2 : decide (32 < t.ch) = true := decide_eq_true h2
      have HX := hid (ItemM.err_bad (show t.ok = false from decide_eq_false (by omega)))
      clear h1 h2
      go_enter Tryd.func41, Tryd.ntmps41
      go_wp2
      go_ret
      exact ⟨ret_int HX.out.symm, (Below.refl _ w).alloc (Nat.le_refl _) _⟩
    · have x2 : decide (32 < t.ch) = false := decide_eq_false h2
      by_cases h3 : 1500 < t.data.size
      · have x3 : decide ((1500 : Int) < (t.data.size : Int)) = true := decide_eq_true (by omega)
        have HX := hid (ItemM.err_bad (show t.ok = false from decide_eq_false (by omega)))
        clear h1 h2 h3
        go_enter Tryd.func41, Tryd.ntmps41
        go_wp2
        go_ret
        exact ⟨ret_int HX.out.symm, (Below.refl _ w).alloc (Nat.le_refl _) _⟩
      · have x3 : decide ((1500 : Int) < (t.data.size : Int)) = false := decide_eq_false (by omega)
        have HX := hid (ItemM.err_ok (show t.ok = true from decide_eq_true (by omega)))
        clear h1 h2 h3
        go_enter Tryd.func41, Tryd.ntmps41
        go_wp2
        go_ret
        exact ⟨ret_int HX.out.symm, (Below.refl _ w).alloc (Nat.le_refl _) _⟩
set_option maxHeartbeats 1000000 in
theorem cjoin_size (l : List ItemM) (size : Int) (v : Value) (w : World) (hs : size < 0 ∨ 65535 < size) :
    Calls Tryd.prog 28 #[v, .int .i64 size] w fun e w' => e = .returned (.int .i64 (joinM l size).err) ∧ w = w' := by
  unfold joinM
  rw [if_pos hs]
  by_cases h0 : size < 0
  · have d0 : decide (size < 0) = true := decide_eq_true h0
    clear h0 hs
    go_enter Tryd.func28, Tryd.ntmps28
    go_wp2
    go_ret
    exact ⟨rfl, rfl⟩
  · have d0 : decide (size < 0) = false := decide_eq_false h0
    have d1 : decide (65535 < size) = true := decide_eq_true (by omega)
    clear h0 hs
    go_enter Tryd.func28, Tryd.ntmps28
    go_wp2
    go_ret
    exact ⟨rfl, rfl⟩
set_option maxRecDepth 100000 in
set_option maxHeartbeats 4000000 in
theorem cjoin_good (l : List ItemM) (n : Nat) (a : Option Addr) (nl c : Nat) (w : World) (hI : Itms w a l) (hnl : l.length = nl) (hm : nl ≤ maxLen) (hn : n ≤ 65535) (hroom : nl ≤ 6000000000000) :
    Calls Tryd.prog 28 #[.slice a nl c, .int .i64 (n : Int)] w fun e w' => e = .returned (.int .i64 (joinM l (n : Int)).err) ∧ Below w.heap.size w w' := by
  have HI := hid hI
  have HNL := hid hnl
  have hm' : nl ≤ 9223372036854775807 := by unfold maxLen at hm; omega
  have d0 : decide ((n : Int) < 0) = false := decide_eq_false (by omega)
  have d1 : decide ((65535 : Int) < (n : Int)) = false := decide_eq_false (by omega)
  have hsz : ¬ ((n : Int) < 0 ∨ (65535 : Int) < (n : Int)) := by omega
  have HJ1 : Hid (l.all ItemM.ok = false → (joinM l (n : Int)).err = 1) := fun h => by unfold joinM; rw [if_neg hsz, if_pos h]
  have HJ2 : Hid (l.all ItemM.ok = true → n < (itemsB l).length → (joinM l (n : Int)).err = 2) := fun h h2 => by unfold joinM; rw [if_neg hsz, if_neg (by rw [h]; decide), if_pos (by omega)]
  have HJ3 : Hid (l.all ItemM.ok = true → (itemsB l).length ≤ n → (joinM l (n : Int)).err = 0) := fun h h2 => by unfold joinM; rw [if_neg hsz, if_neg (by rw [h]; decide), if_neg (by omega)]
  clear hI hnl hm hsz
  go_enter Tryd.func28, Tryd.ntmps28
  go_wp2_with fail
  go_loopw [5, 17] (fun v i wr => ∃ k m : Nat, k ≤ nl ∧ m ≤ 1503 * k ∧ i = .int .i64 k ∧ v = .int .i64 m ∧ Hid (m = (itemsB (l.take k)).length) ∧ (∀ j, j < k → (l.getD j .zero).ok = true) ∧ Below w.heap.size w wr) (fun _ i _ => nl - (intOf i).toNat)
  case atStart => exact ⟨0, 0, by omega, by omega, rfl, rfl, rfl, fun j hj => by omega, Below.refl _ w⟩
  case round =>
    obtain ⟨k, m, hk, hmm, rfl, rfl, HM, hoks, hb⟩ := hrel
    by_cases hlt : k < nl
    · obtain ⟨b, o, rfl, hC⟩ := HI.out.at (i := k) (by rw [HNL.out]; exact hlt)
      obtain ⟨q0, q1⟩ := hC k (by rw [HNL.out]; exact hlt)
      have hkl : k < l.length := by rw [HNL.out]; exact hlt
      have htk2 : (itemsB (l.take (k + 1))).length = m + (3 + (l.getD k .zero).data.size) := by
        rw [itemsB_take hkl, List.length_append, List.length_append, bytesI_length, HM.out]
        have e3 : (l.getD k .zero).head.length = 3 := rfl
        omega
      have HAF := hid (fun h => HJ1.out (all_false hkl h))
      have HOK := hid hoks
      obtain ⟨I, eI⟩ : ∃ I, I = l.getD k .zero := ⟨_, rfl⟩
      rw [← eI] at q0 q1 HAF htk2
      have HTK := hid htk2
      have q0 := cellOldJ hb q0
      have q1 := cellOldJ hb q1
      have HE := hid eI
      have hci := citem_any I
      clear hC eI hoks hkl htk2
      cases hok : I.ok with
      | false =>
        rw [ItemM.err_bad hok] at hci
        have HX := hid (HAF.out hok)
        clear hok
        go_wp2_with (go_at_call 41; refine (hci _).mono ?_; rintro e w1 ⟨rfl, hb1⟩)
        go_ret
        exact ⟨ret_int HX.out.symm, (hb.alloc hb.size _).trans (hb1.mono (by have := hb.size; simp; omega))⟩
      | true =>
        rw [ItemM.err_ok hok] at hci
        have HKO := hid hok
        have hsz := (of_decide_eq_true hok).2.2
        have hmx : m + (3 + I.data.size) ≤ 1503 * (k + 1) := by omega
        have hmy : m + (3 + I.data.size) ≤ 9100000000000000 := by omega
        have hq3 := fun (T : TypeId) (w1 : World) (h1 : Below (wr.alloc (.cells #[.int .i64 I.ch, .string I.data] T)).heap.size (wr.alloc (.cells #[.int .i64 I.ch, .string I.data] T)) w1) => cellOldJ h1 (show (wr.alloc (.cells #[.int .i64 I.ch, .string I.data] T)).cell? ⟨wr.heap.size, 1, none⟩ = some (.string I.data) by rw [cell_of_row _ _ _ _ _ _ (heap_alloc_new wr _)]; rfl)
        clear hok
        go_wp2_with (go_at_call 41; refine (hci _).mono ?_; rintro e w1 ⟨rfl, hb1⟩; have q3 := hq3 _ _ hb1)
        go_roundw
        case rel => exact ⟨k + 1, m + (3 + I.data.size), by omega, hmx, by go_num, by go_num, HTK.out.symm, fun j hj => by
          by_cases e : j = k
          · rw [e, ← HE.out]; exact HKO.out
          · exact HOK.out j (by omega), (hb.alloc hb.size _).trans (hb1.mono (by have := hb.size; simp; omega))⟩
        case measure => simp [intOf]; omega
    · have e : k = nl := by omega
      subst e
      have hall := all_true (l := l) (fun j hj => hoks j (by rw [← HNL.out]; exact hj))
      have htk : l.take k = l := List.take_of_length_le (by rw [HNL.out]; exact Nat.le_refl _)
      have hme := HM.out
      rw [htk] at hme
      by_cases hgt : n < m
      · have y1 : decide (n < m) = true := decide_eq_true hgt
        have HX := hid (HJ2.out hall (by rw [← hme]; exact hgt))
        clear hall htk hoks hme
        go_wp2_with fail
        go_ret
        exact ⟨ret_int HX.out.symm, hb⟩
      · have y1 : decide (n < m) = false := decide_eq_false hgt
        have HX := hid (HJ3.out hall (by rw [← hme]; omega))
        clear hall htk hoks hme
        go_wp2_with fail
        go_ret
        exact ⟨ret_int HX.out.symm, hb⟩
theorem cjoin_any (l : List ItemM) (size : Int) (a : Option Addr) (nl c : Nat) (w : World) (hI : Itms w a l) (hnl : l.length = nl) (hm : nl ≤ maxLen) (hroom : nl ≤ 6000000000000) :
    Calls Tryd.prog 28 #[.slice a nl c, .int .i64 size] w fun e w' => e = .returned (.int .i64 (joinM l size).err) ∧ Below w.heap.size w w' := by
  by_cases hs : size < 0 ∨ 65535 < size
  · refine (cjoin_size l size _ w hs).mono ?_
    rintro e w' ⟨rfl, rfl⟩
    exact ⟨rfl, Below.refl _ _⟩
  · obtain ⟨n, rfl⟩ : ∃ n : Nat, size = (n : Int) := ⟨size.toNat, by omega⟩
    exact cjoin_good l n a nl c w hI hnl hm (by omega) hroom
end Go.Proofs.YtmdfjhnibhmdkafDoor
namespace Go.Proofs.YtmdfjhnibhmdkafDoor
open Go.ChangeShapes Go.WideShapes Go.ChangeAt Go.RowKit
/-- 'append(v, x, y, z)', with what else stays. -/
theorem wpList_push3g {ops : Array Oper} {rest : List Oper} {o : Oper} {a : Act} {Q : Exit → Act → World → Prop} {w0 : World} {v : Value} {L : List Int} (B : Nat) (w00 : World) (x0 x1 x2 : Int) (hown : Own w0 B v L) (hgd : o.guard = none) (s x : Operand)
    (ho : o.op = .call { callee := .builtin .append, args := #[s, x], argTypes := #[68, 68] }) (hs : a.eval s = v)
    (gx : Nat) (hgx : gx = w0.heap.size) (hx : a.eval x = .slice (some ⟨gx, 0, none⟩) 3 3) (hlen : L.length < 70368744177664) (hbel : Below B w00 w0) (hB : B ≤ w0.heap.size)
    (h : ∀ v' w', Own w' B v' (L ++ [x0, x1, x2]) → Below B w00 w' → (w0.alloc (.cells #[.int .u8 x0, .int .u8 x1, .int .u8 x2] 5)).grownBy w' v.ownBlock → wpList Tryd.prog ops Q rest (a.put o.dst v') w') : wpList Tryd.prog ops Q (o :: rest) a (w0.alloc (.cells #[.int .u8 x0, .int .u8 x1, .int .u8 x2] 5)) := by
  subst hgx
  obtain ⟨i0, hi, hz0, hz1, hz2⟩ := info_parts Tryd.info5
  have hq := heap_alloc_new w0 (.cells #[.int .u8 x0, .int .u8 x1, .int .u8 x2] 5)
  refine wpList_append_own _ hgd s x 68 ho B 5 i0 (.int .u8 0) 1 1 Tryd.underlying68 hi hz0 hz1 hz2 rfl (by decide) v _ _ hs (World.ownsRow.alloc hown _) ⟨w0.heap.size, 0, none⟩ 3 3 [.int .u8 x0, .int .u8 x1, .int .u8 x2] hx rfl ?_ ?_ ?_ ?_ ?_ ?_
  · intro j u hu
    have e1 : (⟨w0.heap.size, 0, none⟩ : Addr).add j = ⟨w0.heap.size, j, none⟩ := by unfold Addr.add; split <;> simp_all
    rw [e1, cell_of_row _ _ _ _ _ _ hq]
    simpa using hu
  · intro u hu; simp at hu; rcases hu with rfl | rfl | rfl <;> rfl
  · unfold maxLen; omega
  · omega
  · simp; omega
  · intro v' w' h1 h2 _
    exact h v' w' (Own.cat (M := [x0, x1, x2]) rfl h1) ((hbel.alloc hB _).grown h2 (by simp; omega) (own_blocks hown)) h2
/-- Noughts as a text. -/
def zeroS (n : Nat) : ByteArray := ⟨Array.replicate n 0⟩
theorem zeroS_size (n : Nat) : (zeroS n).size = n := by simp [zeroS, ByteArray.size]
theorem zeroS_bytes (n : Nat) : bytesI (zeroS n) = List.replicate n 0 := by
  unfold bytesI zeroS
  simp
theorem zero_cells (n : Nat) : Builtin.zeroCells #[Value.int .u8 0] n = (Lib.strCells (zeroS n)).toArray := by
  rw [strCells_bytes, zeroS_bytes]
  refine Array.ext (by simp [Builtin.zeroCells]) fun j h1 h2 => ?_
  simp [Builtin.zeroCells, Nat.mod_one]
set_option maxHeartbeats 1000000 in
/-- 'append(s, make([]byte, n)...)' is an append of a text of noughts. -/
theorem run_append_zeros {P : Program} (w : World) (t u st ty e : TypeId) (i : TypeInfo) (ht : P.underlying t = some (.slice e)) (hu : P.underlying u = some (.int .i64)) (hst : P.underlying st = some .string) (hi : P.info? e = some i) (hz : i.zero = some (.int .u8 0)) (hsize : i.size = 1) (hby : i.bytes = 1)
    (b : Option Addr) (sLen sCap n : Nat) (hn : sLen + n ≤ 70368744177664) :
    (Builtin.append_ #[t, u] ty #[.slice b sLen sCap, .int .i64 (n : Int)]).run P w = (Builtin.append_ #[t, st] ty #[.slice b sLen sCap, .string (zeroS n)]).run P w := by
  have hw : IntKind.i64.wrap (n : Int) = (n : Int) := by rw [IntKind.wrap_i64]; omega
  have h0 : ¬ ((n : Int) < 0) := by omega
  have h48 : ¬ ((281474976710656 : Int) < (n : Int)) := by omega
  have hz1 : (Value.int IntKind.u8 0).cells = #[Value.int .u8 0] := rfl
  have hs := zeroS_size n
  have hai : ∀ (m : Int) (W : World), (asInt (.int .i64 m)).run P W = .ok m W := fun m W => by simp [asInt, asIntOf]
  have hw0 : IntKind.i64.wrap 0 = 0 := by decide
  by_cases hr : sLen + n ≤ sCap
  · by_cases hn0 : n = 0
    · subst hn0
      have hf := Lib.run_firstCells_string (P := P) w 1 (zeroS 0)
      have he : Lib.strCells (zeroS 0) = [] := rfl
      rw [hs, he] at hf
      have hr' : sLen ≤ sCap := hr
      simp [Builtin.append_, run_underlying ht, run_underlying hu, run_underlying hst, sizeOf, typeInfo, hi, hsize, hby, Builtin.lenOf, hs, hf, hai, hw0, hr']
    · have hf := Lib.run_firstCells_string (P := P) w 1 (zeroS n)
      rw [hs] at hf
      simp [Builtin.append_, run_underlying ht, run_underlying hu, run_underlying hst, sizeOf, typeInfo, zeroValue, hi, hz, hsize, hby, Builtin.lenOf, hs, hf, hai, hw, h0, h48, hr, hn0, hz1, zero_cells]
  · have h63 : ¬ (9223372036854775807 < ((sLen : Int) + (n : Int))) := by omega
    have hg := growslice_fits (need := sLen + n) (old := sCap) (bytes := 1) (by omega) (by omega)
    rw [Nat.mul_one] at hg
    have hg' : ¬ (281474976710656 < Builtin.nextslicecap (sLen + n) sCap) := by omega
    by_cases hn0 : n = 0
    · subst hn0
      have hf : ∀ W : World, (Builtin.firstCells 1 0 (.string (zeroS 0))).run P W = .ok #[] W := fun W => by
        have hf := Lib.run_firstCells_string (P := P) W 1 (zeroS 0)
        have he : Lib.strCells (zeroS 0) = [] := rfl
        rw [hs, he] at hf
        exact hf
      have hr' : ¬ sLen ≤ sCap := hr
      have h63' : ¬ (9223372036854775807 < (sLen : Int)) := by omega
      have hg'' : ¬ (281474976710656 < Builtin.nextslicecap sLen sCap) := hg'
      simp [Builtin.append_, run_underlying ht, run_underlying hu, run_underlying hst, sizeOf, typeInfo, zeroValue, hi, hz, hsize, hby, Builtin.lenOf, hs, hf, hai, hw0, hr', h63', hg'']
    · have hf : ∀ W : World, (Builtin.firstCells 1 n (.string (zeroS n))).run P W = .ok (Lib.strCells (zeroS n)).toArray W := fun W => by
        have hf := Lib.run_firstCells_string (P := P) W 1 (zeroS n)
        rw [hs] at hf
        exact hf
      simp [Builtin.append_, run_underlying ht, run_underlying hu, run_underlying hst, sizeOf, typeInfo, zeroValue, hi, hz, hsize, hby, Builtin.lenOf, hs, hf, hai, hw, h0, h48, hr, h63, hg', hn0, hz1, zero_cells]
/-- 'append(v, make([]byte, n)...)'. -/
theorem wpList_pushZ {ops : Array Oper} {rest : List Oper} {o : Oper} {a : Act} {Q : Exit → Act → World → Prop} {w0 : World} {v : Value} {L : List Int} (B : Nat) (w00 : World) (n : Nat) (hown : Own w0 B v L) (hgd : o.guard = none) (s x : Operand)
    (ho : o.op = .call { callee := .builtin .append, args := #[s, x], argTypes := #[68, 3] }) (hs : a.eval s = v)
    (N : Int) (hx : a.eval x = .int .i64 N) (hN : N = (n : Int)) (hlen : L.length + n ≤ 70368744177664) (hbel : Below B w00 w0) (hB : B ≤ w0.heap.size)
    (h : ∀ v' w', Own w' B v' (L ++ List.replicate n 0) → Below B w00 w' → wpList Tryd.prog ops Q rest (a.put o.dst v') w') : wpList Tryd.prog ops Q (o :: rest) a w0 := by
  subst hN
  obtain ⟨i0, hi, hz0, hz1, hz2⟩ := info_parts Tryd.info5
  obtain ⟨b, c, e, -, -, -⟩ := Own.shape hown
  subst e
  refine wpList_plain hgd fun K hK => ?_
  have hsz := zeroS_size n
  obtain ⟨v', w', hr, h2, h3, h4⟩ := Lib.run_append_own_string (P := Tryd.prog) w0 B 68 9 o.type 5 i0 Tryd.underlying68 Tryd.underlying9 hi hz0 hz1 hz2 _ _ _ hown (zeroS n) (by rw [hsz]; unfold maxLen; omega) (by rw [hsz]; omega) hB
  rw [← run_append_zeros w0 68 3 9 o.type 5 i0 Tryd.underlying68 Tryd.underlying3 Tryd.underlying9 hi hz0 hz1 hz2 b L.length c n hlen] at hr
  unfold Oper.wp execOp
  simp only [ho, resolve, invoke, builtin, Sem.run_bind, Sem.run_pure, Result.andThen_ok, List.map_toArray, List.map_cons, List.map_nil, hs, hx, hr]
  refine hK _ _ (h v' w' ?_ (hbel.grown h3 hB (own_blocks hown)))
  rw [strCells_bytes, zeroS_bytes, hsz] at h2
  exact Own.cat (M := List.replicate n 0) (by simp) h2
end Go.Proofs.YtmdfjhnibhmdkafDoor
