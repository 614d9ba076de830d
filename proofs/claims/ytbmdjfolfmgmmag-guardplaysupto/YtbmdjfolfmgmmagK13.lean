import Derived.Test.YtbmdjfolfmgmmagK12
import Derived.Maps.OwnSet
import Derived.Maps.Keyed
namespace Go.Proofs.Ytbmdjfolfmgmmag
open Go.ChangeShapes Go.WideShapes Go.ChangeAt Go.RowKit
def PktM.cells (p : PktM) : List Value := [.int .i64 p.short, .string p.data, .string p.sl]
def cellsPk (l : List PktM) : List Value := l.flatMap PktM.cells
theorem cellsPk_snoc (l : List PktM) (x : PktM) : cellsPk (l ++ [x]) = cellsPk l ++ x.cells := by simp [cellsPk]
theorem cellsPk_append (l k : List PktM) : cellsPk (l ++ k) = cellsPk l ++ cellsPk k := by simp [cellsPk]
theorem cellsPk_length : ∀ l : List PktM, (cellsPk l).length = l.length * 3
  | [] => rfl
  | x :: l => by
    have e : cellsPk (x :: l) = x.cells ++ cellsPk l := rfl
    rw [e, List.length_append, cellsPk_length l, List.length_cons]
    show 3 + _ = _
    omega
theorem cellsPk_at : ∀ (l : List PktM) (i k : Nat), i < l.length → k < 3 → (cellsPk l)[i * 3 + k]? = (l.getD i .zero).cells[k]?
  | [], i, _, h, _ => by simp at h
  | x :: l, 0, k, _, hk => by
    have e : cellsPk (x :: l) = x.cells ++ cellsPk l := rfl
    rw [e, List.getElem?_append_left (by show 0 * 3 + k < 3; omega)]
    simp
  | x :: l, i + 1, k, h, hk => by
    have e : cellsPk (x :: l) = x.cells ++ cellsPk l := rfl
    have ih := cellsPk_at l i k (by simpa using h) hk
    have h4 : x.cells.length = 3 := rfl
    rw [e, List.getElem?_append_right (by rw [h4]; omega), h4, show (i + 1) * 3 + k - 3 = i * 3 + k by omega, ih]
    rfl
theorem cellsPk_one (l : List PktM) : ∀ u ∈ cellsPk l, u.oneCell' = true := fun u hu => by
  simp only [cellsPk, List.mem_flatMap] at hu
  obtain ⟨p, _, hp⟩ := hu
  simp only [PktM.cells, List.mem_cons, List.not_mem_nil, or_false] at hp
  rcases hp with rfl | rfl | rfl <;> rfl
theorem cellsPk_set : ∀ (l : List PktM) (i : Nat) (p : PktM), (((cellsPk l).set (i * 3) (.int .i64 p.short)).set (i * 3 + 1) (.string p.data)).set (i * 3 + 2) (.string p.sl) = cellsPk (l.set i p)
  | [], i, p => by simp [cellsPk]
  | x :: l, 0, p => by
    show _ = p.cells ++ cellsPk l
    have e : cellsPk (x :: l) = x.cells ++ cellsPk l := rfl
    rw [e]
    rfl
  | x :: l, i + 1, p => by
    have ih := cellsPk_set l i p
    have e : cellsPk (x :: l) = Value.int .i64 x.short :: .string x.data :: .string x.sl :: cellsPk l := rfl
    have e2 : cellsPk ((x :: l).set (i + 1) p) = Value.int .i64 x.short :: .string x.data :: .string x.sl :: cellsPk (l.set i p) := rfl
    rw [e, e2, ← ih, show (i + 1) * 3 = i * 3 + 1 + 1 + 1 by omega, show i * 3 + 1 + 1 + 1 + 1 = (i * 3 + 1) + 1 + 1 + 1 by omega, show i * 3 + 1 + 1 + 1 + 2 = (i * 3 + 2) + 1 + 1 + 1 by omega]
    simp only [List.set_cons_succ]
/-- Packets that can be read. -/
def Pks (w : World) (a : Option Addr) (l : List PktM) : Prop := l ≠ [] → ∃ b o, a = some ⟨b, o, none⟩ ∧ ∀ i, i < l.length → w.cell? ⟨b, o + i * 3, none⟩ = some (.int .i64 (l.getD i .zero).short) ∧ w.cell? ⟨b, o + i * 3 + 1, none⟩ = some (.string (l.getD i .zero).data) ∧ w.cell? ⟨b, o + i * 3 + 2, none⟩ = some (.string (l.getD i .zero).sl)
theorem Pks.kept {w w' : World} {a : Option Addr} {l : List PktM} {S : List Nat} (h : Pks w a l) (hk : Kept S w w') (hn : NotIn S a) : Pks w' a l := by
  intro hne
  obtain ⟨b, o, rfl, hC⟩ := h hne
  exact ⟨b, o, rfl, fun i hi => ⟨keptCellQ hk (hC i hi).1 (hn ⟨b, o, none⟩ rfl), keptCellQ hk (hC i hi).2.1 (hn ⟨b, o, none⟩ rfl), keptCellQ hk (hC i hi).2.2 (hn ⟨b, o, none⟩ rfl)⟩⟩
theorem at_pks {w : World} {g : Nat} {cur : List Value} {l : List PktM} (h : At w g 43 cur) (ht : cur.take (l.length * 3) = cellsPk l) : Pks w (some ⟨g, 0, none⟩) l := by
  intro _
  refine ⟨g, 0, rfl, fun i hi => ?_⟩
  have hat : ∀ k, k < 3 → w.cell? ⟨g, 0 + i * 3 + k, none⟩ = (l.getD i .zero).cells[k]? := fun k hk => by
    rw [Nat.zero_add, h.cell, ← cellsPk_at l i k hi hk, ← ht, List.getElem?_take_of_lt (by omega)]
  exact ⟨hat 0 (by omega), hat 1 (by omega), hat 2 (by omega)⟩
theorem row_pks {w : World} {B n c : Nat} {a : Option Addr} {l : List PktM} (h : w.ownsRow B 43 3 (.slice a n c) l.length (cellsPk l)) : Pks w a l := by
  intro hne
  rcases h.2 with ⟨h', h0⟩ | ⟨g, cap, cur, h', _, hg, _, _, _, ht⟩
  · exact absurd (List.length_eq_zero_iff.1 h0) hne
  · simp only [Value.slice.injEq] at h'
    obtain ⟨rfl, _, _⟩ := h'
    exact at_pks (cur := cur.toList) (by unfold At; rw [Array.toArray_toList]; exact hg) (by simpa using ht) hne
theorem Try.infoPk : (Try.prog.info? 43).map (fun i => (i.zero, i.size, i.bytes)) = some (some (.agg #[.int .i64 0, .string { data := #[] }, .string { data := #[] }]), 3, 40) := by kernel_rfl
/-- What Move says. -/
def SdM.again (m : SdM) (k : Int) : List PktM := (List.range m.wait.length).map fun i => pktG k (m.beg + i) (m.wait.getD i ByteArray.empty)
theorem SdM.again_length (m : SdM) (k : Int) : (m.again k).length = m.wait.length := by simp [SdM.again]
def SdM.againTo (m : SdM) (k : Int) (j : Nat) : List PktM := (List.range m.wait.length).map fun i => if i < j then pktG k (m.beg + i) (m.wait.getD i ByteArray.empty) else .zero
theorem SdM.againTo_length (m : SdM) (k : Int) (j : Nat) : (m.againTo k j).length = m.wait.length := by simp [SdM.againTo]
theorem SdM.againTo_set (m : SdM) (k : Int) (j : Nat) : (m.againTo k j).set j (pktG k (m.beg + j) (m.wait.getD j ByteArray.empty)) = m.againTo k (j + 1) := by
  refine List.ext_getElem (by simp [SdM.againTo]) fun i h1 h2 => ?_
  rw [List.getElem_set]
  simp only [SdM.againTo, List.getElem_map, List.getElem_range]
  by_cases e : j = i
  · subst e
    rw [if_pos rfl, if_pos (by omega)]
  · rw [if_neg e]
    by_cases e2 : i < j
    · rw [if_pos e2, if_pos (by omega)]
    · rw [if_neg e2, if_neg (by omega)]
theorem SdM.againTo_all (m : SdM) (k : Int) : m.againTo k m.wait.length = m.again k := by
  unfold SdM.againTo SdM.again
  refine List.map_congr_left fun i hi => ?_
  rw [if_pos (List.mem_range.1 hi)]
theorem cellsPk_zero (l : List PktM) (n : Nat) (hl : l.length = n) (h : ∀ i, i < n → l.getD i .zero = .zero) : (madeCells #[.int .i64 0, .string { data := #[] }, .string { data := #[] }] (n * 3)).toList = cellsPk l := by
  refine List.ext_getElem? fun t => ?_
  by_cases ht : t < n * 3
  · have e1 := cellsPk_at l (t / 3) (t % 3) (by omega) (by omega)
    rw [show t / 3 * 3 + t % 3 = t by omega, h _ (by omega)] at e1
    rw [e1]
    have h3 : t % 3 = 0 ∨ t % 3 = 1 ∨ t % 3 = 2 := by omega
    rcases h3 with h3 | h3 | h3
    · simp [madeCells, h3, ht, PktM.zero, PktM.cells]
    · simp [madeCells, h3, ht, PktM.zero, PktM.cells]
      rfl
    · simp [madeCells, h3, ht, PktM.zero, PktM.cells]
      rfl
  · rw [List.getElem?_eq_none (by rw [Array.length_toList, size_madeCells]; omega), List.getElem?_eq_none (by rw [cellsPk_length]; omega)]
theorem gmove_bad {w : World} {p : Addr} {k : Int} (hk : keyOk k = false) :
    Calls Try.prog 12 #[.pointer (some p), .int .i64 k] w fun e w' => e = .returned (.tuple #[.slice none 0 0, .int .i64 1]) ∧ Below w.heap.size w w' := by
  have hc := fun wz => checkKey_any k wz
  rw [show keyErr k = 1 by unfold keyErr; rw [hk]; rfl] at hc
  clear hk
  go_enter Try.func12, Try.ntmps12
  go_wp2_with (go_at_call 21; refine (hc _).mono ?_; rintro e w' ⟨rfl, rfl⟩)
  go_ret2
  exact ⟨rfl, Below.refl _ _⟩
def SdM.move (m : SdM) (k : Int) : SdM := ⟨k, m.beg, m.wait⟩
def GmPost (w : World) (g : Nat) (v : Value) (m : SdM) (k : Int) : Ending → World → Prop := fun e w' => ∃ G, e = .returned (.tuple #[.slice (some ⟨G, 0, none⟩) m.wait.length m.wait.length, .int .i64 0]) ∧ w.heap.size ≤ G ∧ At w' G 43 (cellsPk (m.again k)) ∧ Kept (sdF g v) w w' ∧ PSd w' g v (m.move k)
set_option maxRecDepth 100000 in
set_option maxHeartbeats 1000000 in
theorem gmove_ok {w : World} {g : Nat} {v : Value} {m : SdM} {k : Int} (h : PSd w g v m) (hk : keyOk k = true) :
    Calls Try.prog 12 #[.pointer (some ⟨g, 0, none⟩), .int .i64 k] w (GmPost w g v m k) := by
  have hc := fun wz => checkKey_any k wz
  rw [show keyErr k = 0 by unfold keyErr; rw [if_pos hk]] at hc
  have hb := keyOk_bd hk
  obtain ⟨i0, hi, hz0, hz1, hz2⟩ := info_parts Try.infoPk
  obtain ⟨a, c, rfl, q1, q2⟩ := h.mid.shape
  have c0 : w.cell? ⟨g, 0, none⟩ = some (.int .i64 m.key) := h.hd.cell 0
  have f0 := h.hd.free 0
  have hgl := h.hd.lt
  have HLT := hid h.lt
  have hfew : m.beg + m.wait.length ≤ 16777216 := h.ok.few
  have hsm := h.ok.small
  have hP1 : PSd (w.setCell ⟨g, 0, none⟩ (.int .i64 k)) g (.slice a m.wait.length c) (m.move k) := ⟨h.hd.setCellG 0 (.int .i64 k), h.mid.kept (S := [g]) ((Kept.refl _ w).setCell (by simp) _) (fun x hx e => h.ne (by rw [List.mem_singleton] at e; rw [← e]; exact hx)), h.ne, ⟨hb, h.ok.few, h.ok.small⟩⟩
  have hk1 : Kept (sdF g (.slice a m.wait.length c)) w (w.setCell ⟨g, 0, none⟩ (.int .i64 k)) := (Kept.refl _ w).setCell (by simp [sdF]) _
  have x2 : (w.setCell ⟨g, 0, none⟩ (.int .i64 k)).cell? ⟨g, 2, none⟩ = some (.slice a m.wait.length c) := hP1.hd.cell 2
  have hs1 : (w.setCell ⟨g, 0, none⟩ (.int .i64 k)).heap.size = w.heap.size := by simp
  have HP1 := hid hP1
  have HK1 := hid hk1
  have HS1 := hid hs1
  obtain ⟨n, en⟩ : ∃ n, n = m.wait.length := ⟨_, rfl⟩
  have hnb : n ≤ 16777216 := by omega
  have HN := hid en
  have HSM := hid hsm
  have HFW := hid hfew
  rw [← en] at x2
  have hpost : ∀ e w', GmPost w g (.slice a m.wait.length c) m k e w' ↔ GmPost w g (.slice a n c) m k e w' := fun e w' => by rw [en]
  clear h hP1 hk1 hs1 en hsm hfew hk q1 q2 hpost
  go_enter Try.func12, Try.ntmps12
  go_wp2_with (first
    | (go_at_call 21; refine (hc _).mono ?_; rintro e w' ⟨rfl, rfl⟩)
    | (at_make; refine wpList_make_full _ rfl _ _ 39 rfl w.heap.size 43 i0 (.agg #[.int .i64 0, .string { data := #[] }, .string { data := #[] }]) 3 Try.underlying39 hi hz0 hz1 .i64 .i64 _ _ n rfl rfl rfl rfl (by rw [hz2]; omega) (by unfold maxLen; omega) (by rw [HS1.out]; exact Nat.le_refl _) ?_; intro w2 ho2 hg2; rw [HS1.out] at ho2; have hk2 : Kept [] (w.setCell ⟨g, 0, none⟩ (.int .i64 k)) w2 := ⟨hg2.os, hg2.tape, hg2.output, hg2.size, fun y hy _ => hg2.block y hy (by simp)⟩; have hP2 := HP1.out.kept hk2 (by simp); have y2 : w2.cell? ⟨g, 2, none⟩ = some (.slice a n c) := by { have := hP2.hd.cell 2; rw [← HN.out] at this; exact this }))
  have hA2 : At w2 w.heap.size 43 (cellsPk (m.againTo k 0)) := by
    obtain ⟨cur, hA, -, -, -, hcl, hct, -⟩ := row_at ho2
    have e1 : cur = (madeCells #[.int .i64 0, .string { data := #[] }, .string { data := #[] }] (n * 3)).toList := by
      have e0 := hct
      rw [List.take_of_length_le (by omega)] at e0
      exact e0
    rw [cellsPk_zero (m.againTo k 0) n (by rw [SdM.againTo_length, HN.out]) (fun i hi => by simp [SdM.againTo, List.getD, ← HN.out, hi])] at e1
    rw [e1] at hA
    exact hA
  have hK2 : Kept (sdF g (.slice a m.wait.length c)) w w2 := HK1.out.trans (hk2.wider (by simp))
  have hs2 : w.heap.size < w2.heap.size := hA2.lt
  clear ho2 hg2 hk2 x2 c0 f0 y2
  go_loopw [30] (fun i wr => ∃ j : Nat, j ≤ n ∧ i = .int .i64 j ∧ At wr w.heap.size 43 (cellsPk (m.againTo k j)) ∧ PSd wr g (.slice a m.wait.length c) (m.move k) ∧ Kept (sdF g (.slice a m.wait.length c)) w wr) (fun i _ => n - (intOf i).toNat)
  case atStart => exact ⟨0, Nat.zero_le _, rfl, hA2, hP2, hK2⟩
  case round =>
    obtain ⟨j, hj, rfl, hA, hP, hK⟩ := hrel
    clear hA2 hP2 hK2 HP1 HK1 HS1
    by_cases hlt : j < n
    · have hjw : j < m.wait.length := by rw [← HN.out]; exact hlt
      obtain ⟨b, o, rfl, hcells⟩ := hP.mid.txs.at hjw
      have ct : wr.cell? ⟨b, o + j, none⟩ = some (.string (m.wait.getD j ByteArray.empty)) := hcells j hjw
      have d1 : wr.cell? ⟨g, 1, none⟩ = some (.int .i64 (m.beg : Int)) := hP.hd.cell 1
      have hsz := HSM.out j hjw
      have hpk := fun wz => packetOf_any (m.wait.getD j ByteArray.empty) k (m.beg + j) wz hsz hb (by have := HFW.out; omega)
      rw [Int.natCast_add] at hpk
      obtain ⟨R, eR⟩ : ∃ R, R = pktG k (m.beg + j) (m.wait.getD j ByteArray.empty) := ⟨_, rfl⟩
      have HSET := hid (m.againTo_set k j)
      rw [← eR] at hpk HSET
      obtain ⟨rx, ry, rz⟩ := R
      dsimp only [PktM.val] at hpk
      have hbg : (m.beg : Int) + (j : Int) ≤ 16777216 := by have := HFW.out; omega
      obtain ⟨D, eD⟩ : ∃ D, D = m.wait.getD j ByteArray.empty := ⟨_, rfl⟩
      rw [← eD] at ct hpk hsz
      have HA := hid hA
      have HP := hid hP
      have HK := hid hK
      have HL := hid (show (cellsPk (m.againTo k j)).length = n * 3 by rw [cellsPk_length, SdM.againTo_length, HN.out])
      clear hcells eR hP hK hA eD
      go_wp2_with (first
        | (go_at_call 23; refine (hpk _).mono ?_; rintro e w3 ⟨rfl, hb3⟩; have hA3 := HA.out.kept (S := []) (Kept.of_below hb3) (by simp); have y0 : w3.cell? ⟨w.heap.size, j * 3, none⟩ = some ((cellsPk (m.againTo k j))[j * 3]'(by rw [HL.out]; omega)) := by { rw [hA3.cell, List.getElem?_eq_getElem] }; have y1 : w3.cell? ⟨w.heap.size, j * 3 + 1, none⟩ = some ((cellsPk (m.againTo k j))[j * 3 + 1]'(by rw [HL.out]; omega)) := by { rw [hA3.cell, List.getElem?_eq_getElem] }; have y2 : w3.cell? ⟨w.heap.size, j * 3 + 2, none⟩ = some ((cellsPk (m.againTo k j))[j * 3 + 2]'(by rw [HL.out]; omega)) := by { rw [hA3.cell, List.getElem?_eq_getElem] }; have z0 := hA3.free (j * 3); have z1 := hA3.free (j * 3 + 1); have z2 := hA3.free (j * 3 + 2)))
      have hA4 := ((hA3.setCellG (j * 3) (.int .i64 rx)).setCellG (j * 3 + 1) (.string ry)).setCellG (j * 3 + 2) (.string rz)
      rw [cellsPk_set (m.againTo k j) j ⟨rx, ry, rz⟩, HSET.out] at hA4
      have hk4 : Kept [w.heap.size] w3 (((w3.setCell ⟨w.heap.size, j * 3, none⟩ (.int .i64 rx)).setCell ⟨w.heap.size, j * 3 + 1, none⟩ (.string ry)).setCell ⟨w.heap.size, j * 3 + 2, none⟩ (.string rz)) := (((Kept.refl _ _).setCell (by simp) _).setCell (by simp) _).setCell (by simp) _
      refine ⟨⟨j + 1, by omega, by go_num, hA4, (HP.out.kept (S := []) (Kept.of_below hb3) (by simp)).kept hk4 (fun x hx e => ?_), (HK.out.trans (Kept.of_below hb3)).newG hk4 (fun x hx => .inr (by rw [List.mem_singleton] at hx; omega))⟩, by simp [intOf]; omega⟩
      rw [List.mem_singleton] at e
      have := HLT.out x hx
      omega
    · obtain rfl : j = n := by omega
      rw [HN.out, SdM.againTo_all] at hA
      go_wp2_with fail
      go_ret2
      exact ⟨w.heap.size, by rw [← HN.out]; rfl, Nat.le_refl _, hA, hK, hP⟩
end Go.Proofs.Ytbmdjfolfmgmmag
namespace Go.Proofs.Ytbmdjfolfmgmmag
open Go.ChangeShapes Go.WideShapes Go.ChangeAt Go.RowKit Go.Maps
def updM (M : Nat → Option ByteArray) (k : Nat) (x : Option ByteArray) : Nat → Option ByteArray := fun j => if j = k then x else M j
theorem updM_same (M : Nat → Option ByteArray) (k : Nat) (x : Option ByteArray) : updM M k x k = x := if_pos rfl
theorem updM_other (M : Nat → Option ByteArray) {j k : Nat} (x : Option ByteArray) (h : j ≠ k) : updM M k x j = M j := if_neg h
/-- How many are there, of the first n counts. -/
def cntM (M : Nat → Option ByteArray) : Nat → Nat
  | 0 => 0
  | n + 1 => cntM M n + if (M n).isSome then 1 else 0
theorem cntM_le (M : Nat → Option ByteArray) : ∀ n, cntM M n ≤ n
  | 0 => Nat.le_refl _
  | n + 1 => by have := cntM_le M n; rw [cntM]; split <;> omega
theorem cntM_above (M : Nat → Option ByteArray) {k : Nat} (x : Option ByteArray) : ∀ n, n ≤ k → cntM (updM M k x) n = cntM M n
  | 0, _ => rfl
  | n + 1, h => by
    have e : n ≠ k := by omega
    rw [cntM, cntM, cntM_above M x n (by omega), updM_other M x e]
theorem cntM_upd (M : Nat → Option ByteArray) {k : Nat} (x : Option ByteArray) : ∀ n, k < n → cntM (updM M k x) n + (if (M k).isSome then 1 else 0) = cntM M n + if x.isSome then 1 else 0
  | 0, h => by omega
  | n + 1, h => by
    by_cases e : n = k
    · subst e
      rw [cntM, cntM, cntM_above M x n (Nat.le_refl _), updM_same]
      omega
    · have ih := cntM_upd M (k := k) x n (by omega)
      rw [cntM, cntM, updM_other M x e]
      omega
theorem cntM_none (n : Nat) : cntM (fun _ => none) n = 0 := by
  induction n with
  | zero => rfl
  | succ n ih => rw [cntM, ih]; rfl
/-- So many counts there are. -/
def manyC : Nat := 16777216
def heldG (v : Value) : Option (DataW Value × List MemPlace) := some (.held v, [])
theorem Try.lawG : Keyed Try.prog 3 := int_keyed Try.underlying3
theorem Try.zeroG (w : World) : (zeroValue 9).run Try.prog w = .ok (.string { data := #[] }) w := by kernel_rfl
theorem keyG {k : Nat} (h : k ≤ 33554432) : keyOf Try.prog 3 (.int .i64 (k : Int)) = some (.int .i64 (k : Int)) := keyOf_int_mk Try.underlying3 (WalkArith.wf_i64 (by omega))
theorem keyLitG (k : Int) : WideAt.IsKeyLit (.int .i64 k) := by simp [WideAt.IsKeyLit]
theorem litG_ne {j k : Int} (h : j ≠ k) : Lit.int .i64 j ≠ Lit.int .i64 k := by
  intro e
  injection e with _ e
  exact h e
theorem ownsMap_tightG {w : World} {P : Program} {k : TypeId} {R : Value → Option (DataW Value × List MemPlace)} {b n n' : Nat} {D : DataW Value} (h : w.ownsMap P k R b n D) (hs : Maps.size D ≤ n') : w.ownsMap P k R b n' D := by
  obtain ⟨es, clock, hb, F, _, rfl⟩ := h
  refine ⟨es, clock, hb, F, ?_, rfl⟩
  simpa [Maps.size, length_sorted] using hs
/-- What a map tells. -/
structure Tells (D : DataW Value) (M : Nat → Option ByteArray) : Prop where
  size : Maps.size D = cntM M manyC
  has : ∀ k : Nat, k ≤ 33554432 → Maps.has D (.int .i64 (k : Int)) = (M k).isSome
  val : ∀ k : Nat, k ≤ 33554432 → ∀ x, M k = some x → ∀ z, D.atKey (.int .i64 (k : Int)) z = .held (.string x)
  keys : ∀ z : Int, Maps.has D (.int .i64 z) = true → 0 ≤ z ∧ z < 16777216
def StMap (w : World) (bm : Nat) (M : Nat → Option ByteArray) : Prop := ∃ D : DataW Value, w.ownsMap Try.prog 3 heldG bm manyC D ∧ Tells D M
theorem StMap.same {w w' : World} {bm : Nat} {M : Nat → Option ByteArray} (h : StMap w bm M) (e : w'.heap[bm]? = w.heap[bm]?) : StMap w' bm M := by
  obtain ⟨D, ⟨es, clock, hb, F, hs, hD⟩, r⟩ := h
  exact ⟨D, ⟨es, clock, by rw [e]; exact hb, F, hs, hD⟩, r⟩
theorem StMap.lt {w : World} {bm : Nat} {M : Nat → Option ByteArray} (h : StMap w bm M) : bm < w.heap.size := by
  obtain ⟨D, h, _⟩ := h
  exact World.ownsMap.lt h
theorem StMap.kept {w w' : World} {bm : Nat} {M : Nat → Option ByteArray} {S : List Nat} (h : StMap w bm M) (hk : Kept S w w') (hn : bm ∉ S) : StMap w' bm M := h.same (hk.block bm h.lt hn)
theorem StMap.made (w : World) : StMap (w.alloc (.map #[] 0)) w.heap.size (fun _ => none) :=
  ⟨.map [], ownsMap_tightG (World.ownsMap_made w _ _ _) (by simp [Maps.size]), ⟨by rw [cntM_none]; rfl, fun _ _ => rfl, fun _ _ _ hx => absurd hx (by simp), fun _ hz => absurd hz (by simp [Maps.has])⟩⟩
theorem heldG_inj {v : Value} {x : DataW Value} {ps : List MemPlace} (h : heldG v = some (x, ps)) : x = .held v := by
  unfold heldG at h
  simp at h
  exact h.1.symm
theorem StMap.look {w : World} {bm : Nat} {M : Nat → Option ByteArray} (h : StMap w bm M) {k : Nat} (hk : k ≤ 33554432) (c : Bool) :
    (∀ x, M k = some x → (Instr.lookup 59 (.map (some bm)) (.int .i64 (k : Int)) c).run Try.prog w = .ok (if c then .tuple #[.string x, .bool true] else .string x) w) ∧
    (M k = none → (Instr.lookup 59 (.map (some bm)) (.int .i64 (k : Int)) c).run Try.prog w = .ok (if c then .tuple #[.string { data := #[] }, .bool false] else .string { data := #[] }) w) := by
  obtain ⟨D, ho, hT⟩ := h
  cases c with
  | true =>
    obtain ⟨v, ps, hrun, hR⟩ := ho.look_ok Try.lawG Try.underlying59 (Try.zeroG w) (zd := .held (.string { data := #[] })) (zp := []) rfl (keyG hk)
    have h1 := heldG_inj hR
    rw [hT.has k hk] at hrun
    refine ⟨fun x hx => ?_, fun hx => ?_⟩
    · rw [hT.val k hk x hx] at h1
      have h1 := DataW.held.inj h1
      rw [hx, ← h1] at hrun
      exact hrun
    · rw [atKey_of_not_has (by rw [hT.has k hk, hx]; rfl)] at h1
      have h1 := DataW.held.inj h1
      rw [hx, ← h1] at hrun
      exact hrun
  | false =>
    obtain ⟨v, ps, hrun, hR⟩ := ho.lookup Try.lawG Try.underlying59 (Try.zeroG w) (zd := .held (.string { data := #[] })) (zp := []) rfl (keyG hk)
    have h1 := heldG_inj hR
    refine ⟨fun x hx => ?_, fun hx => ?_⟩
    · rw [hT.val k hk x hx] at h1
      have h1 := DataW.held.inj h1
      rw [← h1] at hrun
      exact hrun
    · rw [atKey_of_not_has (by rw [hT.has k hk, hx]; rfl)] at h1
      have h1 := DataW.held.inj h1
      rw [← h1] at hrun
      exact hrun
theorem grown_keptG {w w' : World} {g : Nat} (h : w.grownBy w' (some g)) : Kept [g] w w' := ⟨h.os, h.tape, h.output, h.size, fun k hk hn => h.block k hk (fun e => hn (by simp only [Option.some.injEq] at e; simp [e]))⟩
theorem StMap.put {w : World} {bm : Nat} {M : Nat → Option ByteArray} (h : StMap w bm M) {k : Nat} (hk : k < 16777216) (x : ByteArray) (hM : M k = none) :
    ∃ w', (Instr.mapUpdate 59 (.map (some bm)) (.int .i64 (k : Int)) (.string x)).run Try.prog w = .ok () w' ∧ StMap w' bm (updM M k (some x)) ∧ Kept [bm] w w' := by
  obtain ⟨D, ho, hT⟩ := h
  obtain ⟨w', hrun, h1, h2⟩ := ho.update Try.lawG Try.underlying59 (by unfold maxLen manyC; omega) (keyG (k := k) (by omega)) (show heldG (.string x) = some (.held (.string x), []) from rfl)
  refine ⟨w', hrun, ?_, grown_keptG h2⟩
  have hsz : Maps.size (D.put (.int .i64 (k : Int)) (.held (.string x))) = cntM (updM M k (some x)) manyC := by
    have h3 := cntM_upd M (k := k) (some x) manyC hk
    rw [hM] at h3
    rw [size_put (ho.tidy Try.lawG), hT.has k (by omega), hM, hT.size]
    simp at h3 ⊢
    omega
  refine ⟨_, ownsMap_tightG h1 (by rw [hsz]; exact cntM_le _ _), hsz, fun j hj => ?_, fun j hj y hy z => ?_, fun z hz => ?_⟩
  · by_cases e : j = k
    · subst e
      rw [has_put_same ho.isMap (keyLitG _), updM_same]
      rfl
    · rw [has_put_other (litG_ne (by omega)), updM_other M _ e]
      exact hT.has j hj
  · by_cases e : j = k
    · subst e
      rw [updM_same] at hy
      have hy := Option.some.inj hy
      rw [atKey_put_same ho.isMap (keyLitG _), hy]
    · rw [updM_other M _ e] at hy
      rw [atKey_put_other (litG_ne (by omega))]
      exact hT.val j hj y hy z
  · by_cases e : z = (k : Int)
    · omega
    · rw [has_put_other (litG_ne e)] at hz
      exact hT.keys z hz
theorem StMap.del {w : World} {bm : Nat} {M : Nat → Option ByteArray} (h : StMap w bm M) {k : Nat} (hk : k < 16777216) (ty : TypeId) :
    ∃ w', (Builtin.delete_ #[59, 3] ty #[.map (some bm), .int .i64 (k : Int)]).run Try.prog w = .ok (.tuple #[]) w' ∧ StMap w' bm (updM M k none) ∧ Kept [bm] w w' := by
  obtain ⟨D, ho, hT⟩ := h
  obtain ⟨w', hrun, h1, h2⟩ := ho.drop Try.lawG Try.underlying59 (keyG (k := k) (by omega)) ty
  refine ⟨w', hrun, ?_, grown_keptG h2.grown⟩
  have hsz : Maps.size (D.del (.int .i64 (k : Int))) = cntM (updM M k none) manyC := by
    have h3 := cntM_upd M (k := k) none manyC hk
    have h4 := size_del (k := .int .i64 (k : Int)) (ho.tidy Try.lawG)
    rw [hT.has k (by omega), hT.size] at h4
    simp at h3 h4
    omega
  refine ⟨_, ownsMap_tightG h1 (by rw [hsz]; exact cntM_le _ _), hsz, fun j hj => ?_, fun j hj y hy z => ?_, fun z hz => ?_⟩
  · by_cases e : j = k
    · subst e
      rw [has_del_same, updM_same]
      rfl
    · rw [has_del_other (litG_ne (by omega)), updM_other M _ e]
      exact hT.has j hj
  · by_cases e : j = k
    · subst e
      rw [updM_same] at hy
      cases hy
    · rw [updM_other M _ e] at hy
      rw [atKey_del_other (litG_ne (by omega))]
      exact hT.val j hj y hy z
  · by_cases e : z = (k : Int)
    · subst e
      rw [has_del_same] at hz
      cases hz
    · rw [has_del_other (litG_ne e)] at hz
      exact hT.keys z hz
end Go.Proofs.Ytbmdjfolfmgmmag
