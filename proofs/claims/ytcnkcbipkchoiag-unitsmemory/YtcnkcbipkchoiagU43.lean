import Derived.Test.YtcnkcbipkchoiagU42
import Derived.Test.YtcnkcbipkchoiagU01
namespace Go.Proofs.Ytcnkcbipkchoiag
open Go.ChangeShapes Go.WideShapes Go.ChangeAt Go.RowKit
def PktM.cells (p : PktM) : List Value := [.int .i64 p.short, .string p.data, .string p.sl]
def cellsPk (l : List PktM) : List Value := l.flatMap PktM.cells
theorem cellsPk_length : ∀ l : List PktM, (cellsPk l).length = l.length * 3
  | [] => rfl
  | x :: l => by
    have e : cellsPk (x :: l) = x.cells ++ cellsPk l := rfl
    rw [e, List.length_append, cellsPk_length l, List.length_cons]
    show 3 + _ = _
    omega
theorem cellsPk_at : ∀ (l : List PktM) (i k : Nat), i < l.length → k < 3 → (cellsPk l)[i * 3 + k]? = (l.getD i .zero).cells[k]?
  | [], i, _, h, _ => by simp at h
  | x :: l, 0, k, _, hk => by
    have e : cellsPk (x :: l) = x.cells ++ cellsPk l := rfl
    rw [e, List.getElem?_append_left (by show 0 * 3 + k < 3; omega)]
    simp
  | x :: l, i + 1, k, h, hk => by
    have e : cellsPk (x :: l) = x.cells ++ cellsPk l := rfl
    have ih := cellsPk_at l i k (by simpa using h) hk
    have h4 : x.cells.length = 3 := rfl
    rw [e, List.getElem?_append_right (by rw [h4]; omega), h4, show (i + 1) * 3 + k - 3 = i * 3 + k by omega, ih]
    rfl
theorem cellsPk_set : ∀ (l : List PktM) (i : Nat) (p : PktM), (((cellsPk l).set (i * 3) (.int .i64 p.short)).set (i * 3 + 1) (.string p.data)).set (i * 3 + 2) (.string p.sl) = cellsPk (l.set i p)
  | [], i, p => by simp [cellsPk]
  | x :: l, 0, p => by
    show _ = p.cells ++ cellsPk l
    have e : cellsPk (x :: l) = x.cells ++ cellsPk l := rfl
    rw [e]
    rfl
  | x :: l, i + 1, p => by
    have ih := cellsPk_set l i p
    have e : cellsPk (x :: l) = Value.int .i64 x.short :: .string x.data :: .string x.sl :: cellsPk l := rfl
    have e2 : cellsPk ((x :: l).set (i + 1) p) = Value.int .i64 x.short :: .string x.data :: .string x.sl :: cellsPk (l.set i p) := rfl
    rw [e, e2, ← ih, show (i + 1) * 3 = i * 3 + 1 + 1 + 1 by omega, show i * 3 + 1 + 1 + 1 + 1 = (i * 3 + 1) + 1 + 1 + 1 by omega, show i * 3 + 1 + 1 + 1 + 2 = (i * 3 + 2) + 1 + 1 + 1 by omega]
    simp only [List.set_cons_succ]
/-- Packets that can be read. -/
def Pks (w : World) (a : Option Addr) (l : List PktM) : Prop := l ≠ [] → ∃ b o, a = some ⟨b, o, none⟩ ∧ ∀ i, i < l.length → w.cell? ⟨b, o + i * 3, none⟩ = some (.int .i64 (l.getD i .zero).short) ∧ w.cell? ⟨b, o + i * 3 + 1, none⟩ = some (.string (l.getD i .zero).data) ∧ w.cell? ⟨b, o + i * 3 + 2, none⟩ = some (.string (l.getD i .zero).sl)
theorem Pks.kept {w w' : World} {a : Option Addr} {l : List PktM} {S : List Nat} (h : Pks w a l) (hk : Kept S w w') (hn : NotIn S a) : Pks w' a l := by
  intro hne
  obtain ⟨b, o, rfl, hC⟩ := h hne
  exact ⟨b, o, rfl, fun i hi => ⟨keptCellQ hk (hC i hi).1 (hn ⟨b, o, none⟩ rfl), keptCellQ hk (hC i hi).2.1 (hn ⟨b, o, none⟩ rfl), keptCellQ hk (hC i hi).2.2 (hn ⟨b, o, none⟩ rfl)⟩⟩
theorem Try.infoPk : (Try.prog.info? 43).map (fun i => (i.zero, i.size, i.bytes)) = some (some (.agg #[.int .i64 0, .string { data := #[] }, .string { data := #[] }]), 3, 40) := by kernel_rfl
/-- What Move says. -/
def SdM.again (m : SdM) (k : Int) : List PktM := (List.range m.wait.length).map fun i => pktG k (m.beg + i) (m.wait.getD i ByteArray.empty)
def SdM.againTo (m : SdM) (k : Int) (j : Nat) : List PktM := (List.range m.wait.length).map fun i => if i < j then pktG k (m.beg + i) (m.wait.getD i ByteArray.empty) else .zero
theorem SdM.againTo_length (m : SdM) (k : Int) (j : Nat) : (m.againTo k j).length = m.wait.length := by simp [SdM.againTo]
theorem SdM.againTo_set (m : SdM) (k : Int) (j : Nat) : (m.againTo k j).set j (pktG k (m.beg + j) (m.wait.getD j ByteArray.empty)) = m.againTo k (j + 1) := by
  refine List.ext_getElem (by simp [SdM.againTo]) fun i h1 h2 => ?_
  rw [List.getElem_set]
  simp only [SdM.againTo, List.getElem_map, List.getElem_range]
  by_cases e : j = i
  · subst e
    rw [if_pos rfl, if_pos (by omega)]
  · rw [if_neg e]
    by_cases e2 : i < j
    · rw [if_pos e2, if_pos (by omega)]
    · rw [if_neg e2, if_neg (by omega)]
theorem SdM.againTo_all (m : SdM) (k : Int) : m.againTo k m.wait.length = m.again k := by
  unfold SdM.againTo SdM.again
  refine List.map_congr_left fun i hi => ?_
  rw [if_pos (List.mem_range.1 hi)]
theorem cellsPk_zero (l : List PktM) (n : Nat) (hl : l.length = n) (h : ∀ i, i < n → l.getD i .zero = .zero) : (madeCells #[.int .i64 0, .string { data := #[] }, .string { data := #[] }] (n * 3)).toList = cellsPk l := by
  refine List.ext_getElem? fun t => ?_
  by_cases ht : t < n * 3
  · have e1 := cellsPk_at l (t / 3) (t % 3) (by omega) (by omega)
    rw [show t / 3 * 3 + t % 3 = t by omega, h _ (by omega)] at e1
    rw [e1]
    have h3 : t % 3 = 0 ∨ t % 3 = 1 ∨ t % 3 = 2 := by omega
    rcases h3 with h3 | h3 | h3
    · simp [madeCells, h3, ht, PktM.zero, PktM.cells]
    · simp [madeCells, h3, ht, PktM.zero, PktM.cells]
      rfl
    · simp [madeCells, h3, ht, PktM.zero, PktM.cells]
      rfl
  · rw [List.getElem?_eq_none (by rw [Array.length_toList, size_madeCells]; omega), List.getElem?_eq_none (by rw [cellsPk_length]; omega)]
def SdM.move (m : SdM) (k : Int) : SdM := ⟨k, m.beg, m.wait⟩
def GmPost (w : World) (g : Nat) (v : Value) (m : SdM) (k : Int) : Ending → World → Prop := fun e w' => ∃ G, e = .returned (.tuple #[.slice (some ⟨G, 0, none⟩) m.wait.length m.wait.length, .int .i64 0]) ∧ w.heap.size ≤ G ∧ At w' G 43 (cellsPk (m.again k)) ∧ Kept (sdF g v) w w' ∧ PSd w' g v (m.move k)
set_option maxRecDepth 100000 in
set_option maxHeartbeats 1000000 in
theorem gmove_ok {w : World} {g : Nat} {v : Value} {m : SdM} {k : Int} (h : PSd w g v m) (hk : keyOk k = true) :
    Calls Try.prog 15 #[.pointer (some ⟨g, 0, none⟩), .int .i64 k] w (GmPost w g v m k) := by
  have hc := fun wz => checkKey_any k wz
  rw [show keyErr k = 0 by unfold keyErr; rw [if_pos hk]] at hc
  have hb := keyOk_bd hk
  obtain ⟨i0, hi, hz0, hz1, hz2⟩ := info_parts Try.infoPk
  obtain ⟨a, c, rfl, q1, q2⟩ := h.mid.shape
  have c0 : w.cell? ⟨g, 0, none⟩ = some (.int .i64 m.key) := h.hd.cell 0
  have f0 := h.hd.free 0
  have hgl := h.hd.lt
  have HLT := hid h.lt
  have hfew : m.beg + m.wait.length ≤ 16777216 := h.ok.few
  have hsm := h.ok.small
  have hP1 : PSd (w.setCell ⟨g, 0, none⟩ (.int .i64 k)) g (.slice a m.wait.length c) (m.move k) := ⟨h.hd.setCellG 0 (.int .i64 k), h.mid.kept (S := [g]) ((Kept.refl _ w).setCell (by simp) _) (fun x hx e => h.ne (by rw [List.mem_singleton] at e; rw [← e]; exact hx)), h.ne, ⟨hb, h.ok.few, h.ok.small⟩⟩
  have hk1 : Kept (sdF g (.slice a m.wait.length c)) w (w.setCell ⟨g, 0, none⟩ (.int .i64 k)) := (Kept.refl _ w).setCell (by simp [sdF]) _
  have x2 : (w.setCell ⟨g, 0, none⟩ (.int .i64 k)).cell? ⟨g, 2, none⟩ = some (.slice a m.wait.length c) := hP1.hd.cell 2
  have hs1 : (w.setCell ⟨g, 0, none⟩ (.int .i64 k)).heap.size = w.heap.size := by simp
  have HP1 := hid hP1
  have HK1 := hid hk1
  have HS1 := hid hs1
  obtain ⟨n, en⟩ : ∃ n, n = m.wait.length := ⟨_, rfl⟩
  have hnb : n ≤ 16777216 := by omega
  have HN := hid en
  have HSM := hid hsm
  have HFW := hid hfew
  rw [← en] at x2
  have hpost : ∀ e w', GmPost w g (.slice a m.wait.length c) m k e w' ↔ GmPost w g (.slice a n c) m k e w' := fun e w' => by rw [en]
  clear h hP1 hk1 hs1 en hsm hfew hk q1 q2 hpost
  go_enter Try.func15, Try.ntmps15
  go_wp2_with (first
    | (go_at_call 50; refine (hc _).mono ?_; rintro e w' ⟨rfl, rfl⟩)
    | (at_make; refine wpList_make_full _ rfl _ _ 39 rfl w.heap.size 43 i0 (.agg #[.int .i64 0, .string { data := #[] }, .string { data := #[] }]) 3 Try.underlying39 hi hz0 hz1 .i64 .i64 _ _ n rfl rfl rfl rfl (by rw [hz2]; omega) (by unfold maxLen; omega) (by rw [HS1.out]; exact Nat.le_refl _) ?_; intro w2 ho2 hg2; rw [HS1.out] at ho2; have hk2 : Kept [] (w.setCell ⟨g, 0, none⟩ (.int .i64 k)) w2 := ⟨hg2.os, hg2.tape, hg2.output, hg2.size, fun y hy _ => hg2.block y hy (by simp)⟩; have hP2 := HP1.out.kept hk2 (by simp); have y2 : w2.cell? ⟨g, 2, none⟩ = some (.slice a n c) := by { have := hP2.hd.cell 2; rw [← HN.out] at this; exact this }))
  have hA2 : At w2 w.heap.size 43 (cellsPk (m.againTo k 0)) := by
    obtain ⟨cur, hA, -, -, -, hcl, hct, -⟩ := row_at ho2
    have e1 : cur = (madeCells #[.int .i64 0, .string { data := #[] }, .string { data := #[] }] (n * 3)).toList := by
      have e0 := hct
      rw [List.take_of_length_le (by omega)] at e0
      exact e0
    rw [cellsPk_zero (m.againTo k 0) n (by rw [SdM.againTo_length, HN.out]) (fun i hi => by simp [SdM.againTo, List.getD, ← HN.out, hi])] at e1
    rw [e1] at hA
    exact hA
  have hK2 : Kept (sdF g (.slice a m.wait.length c)) w w2 := HK1.out.trans (hk2.wider (by simp))
  have hs2 : w.heap.size < w2.heap.size := hA2.lt
  clear ho2 hg2 hk2 x2 c0 f0 y2
  go_loopw [30] (fun i wr => ∃ j : Nat, j ≤ n ∧ i = .int .i64 j ∧ At wr w.heap.size 43 (cellsPk (m.againTo k j)) ∧ PSd wr g (.slice a m.wait.length c) (m.move k) ∧ Kept (sdF g (.slice a m.wait.length c)) w wr) (fun i _ => n - (intOf i).toNat)
  case atStart => exact ⟨0, Nat.zero_le _, rfl, hA2, hP2, hK2⟩
  case round =>
    obtain ⟨j, hj, rfl, hA, hP, hK⟩ := hrel
    clear hA2 hP2 hK2 HP1 HK1 HS1
    by_cases hlt : j < n
    · have hjw : j < m.wait.length := by rw [← HN.out]; exact hlt
      obtain ⟨b, o, rfl, hcells⟩ := hP.mid.txs.at hjw
      have ct : wr.cell? ⟨b, o + j, none⟩ = some (.string (m.wait.getD j ByteArray.empty)) := hcells j hjw
      have d1 : wr.cell? ⟨g, 1, none⟩ = some (.int .i64 (m.beg : Int)) := hP.hd.cell 1
      have hsz := HSM.out j hjw
      have hpk := fun wz => packetOf_any (m.wait.getD j ByteArray.empty) k (m.beg + j) wz hsz hb (by have := HFW.out; omega)
      rw [Int.natCast_add] at hpk
      obtain ⟨R, eR⟩ : ∃ R, R = pktG k (m.beg + j) (m.wait.getD j ByteArray.empty) := ⟨_, rfl⟩
      have HSET := hid (m.againTo_set k j)
      rw [← eR] at hpk HSET
      obtain ⟨rx, ry, rz⟩ := R
      dsimp only [PktM.val] at hpk
      have hbg : (m.beg : Int) + (j : Int) ≤ 16777216 := by have := HFW.out; omega
      obtain ⟨D, eD⟩ : ∃ D, D = m.wait.getD j ByteArray.empty := ⟨_, rfl⟩
      rw [← eD] at ct hpk hsz
      have HA := hid hA
      have HP := hid hP
      have HK := hid hK
      have HL := hid (show (cellsPk (m.againTo k j)).length = n * 3 by rw [cellsPk_length, SdM.againTo_length, HN.out])
      clear hcells eR hP hK hA eD
      go_wp2_with (first
        | (go_at_call 52; refine (hpk _).mono ?_; rintro e w3 ⟨rfl, hb3⟩; have hA3 := HA.out.kept (S := []) (Kept.of_below hb3) (by simp); have y0 : w3.cell? ⟨w.heap.size, j * 3, none⟩ = some ((cellsPk (m.againTo k j))[j * 3]'(by rw [HL.out]; omega)) := by { rw [hA3.cell, List.getElem?_eq_getElem] }; have y1 : w3.cell? ⟨w.heap.size, j * 3 + 1, none⟩ = some ((cellsPk (m.againTo k j))[j * 3 + 1]'(by rw [HL.out]; omega)) := by { rw [hA3.cell, List.getElem?_eq_getElem] }; have y2 : w3.cell? ⟨w.heap.size, j * 3 + 2, none⟩ = some ((cellsPk (m.againTo k j))[j * 3 + 2]'(by rw [HL.out]; omega)) := by { rw [hA3.cell, List.getElem?_eq_getElem] }; have z0 := hA3.free (j * 3); have z1 := hA3.free (j * 3 + 1); have z2 := hA3.free (j * 3 + 2)))
      have hA4 := ((hA3.setCellG (j * 3) (.int .i64 rx)).setCellG (j * 3 + 1) (.string ry)).setCellG (j * 3 + 2) (.string rz)
      rw [cellsPk_set (m.againTo k j) j ⟨rx, ry, rz⟩, HSET.out] at hA4
      have hk4 : Kept [w.heap.size] w3 (((w3.setCell ⟨w.heap.size, j * 3, none⟩ (.int .i64 rx)).setCell ⟨w.heap.size, j * 3 + 1, none⟩ (.string ry)).setCell ⟨w.heap.size, j * 3 + 2, none⟩ (.string rz)) := (((Kept.refl _ _).setCell (by simp) _).setCell (by simp) _).setCell (by simp) _
      refine ⟨⟨j + 1, by omega, by go_num, hA4, (HP.out.kept (S := []) (Kept.of_below hb3) (by simp)).kept hk4 (fun x hx e => ?_), (HK.out.trans (Kept.of_below hb3)).newG hk4 (fun x hx => .inr (by rw [List.mem_singleton] at hx; omega))⟩, by simp [intOf]; omega⟩
      rw [List.mem_singleton] at e
      have := HLT.out x hx
      omega
    · obtain rfl : j = n := by omega
      rw [HN.out, SdM.againTo_all] at hA
      go_wp2_with fail
      go_ret2
      exact ⟨w.heap.size, by rw [← HN.out]; rfl, Nat.le_refl _, hA, hK, hP⟩
end Go.Proofs.Ytcnkcbipkchoiag
namespace Go.Proofs.Ytcnkcbipkchoiag
structure LnM where
  who : Int
  bytes : Nat
  used : Nat
  turn : Nat
  shut : Bool
structure PrM where
  quota : Nat
  st : Nat
  cell : Nat
structure CoM where
  unit : Nat
  per : Int → Option PrM
  loans : List LnM
structure CoR where
  m : CoM
  err : Int
def LnM.zero : LnM := ⟨0, 0, 0, 0, false⟩
def LnM.lc (who : Int) (l : LnM) : Nat := if l.who = who ∧ l.shut = false then l.bytes - l.used else 0
def LnM.uc (who : Int) (l : LnM) : Nat := if l.who = who then l.used else 0
def lentL (who : Int) : List LnM → Nat
  | [] => 0
  | l :: t => l.lc who + lentL who t
def usedL (who : Int) : List LnM → Nat
  | [] => 0
  | l :: t => l.uc who + usedL who t
theorem lentL_set (who : Int) (x : LnM) : ∀ (ls : List LnM) (i : Nat), i < ls.length → lentL who (ls.set i x) + (ls.getD i .zero).lc who = lentL who ls + x.lc who
  | [], i, h => by simp at h
  | y :: t, 0, _ => by simp [lentL]; omega
  | y :: t, i + 1, h => by
    have := lentL_set who x t i (by simpa using h)
    simp only [List.set_cons_succ, lentL, List.getD_cons_succ]
    omega
theorem usedL_set (who : Int) (x : LnM) : ∀ (ls : List LnM) (i : Nat), i < ls.length → usedL who (ls.set i x) + (ls.getD i .zero).uc who = usedL who ls + x.uc who
  | [], i, h => by simp at h
  | y :: t, 0, _ => by simp [usedL]; omega
  | y :: t, i + 1, h => by
    have := usedL_set who x t i (by simpa using h)
    simp only [List.set_cons_succ, usedL, List.getD_cons_succ]
    omega
theorem lentL_none {who : Int} : ∀ {ls : List LnM}, (∀ l ∈ ls, l.who ≠ who) → lentL who ls = 0 ∧ usedL who ls = 0
  | [], _ => ⟨rfl, rfl⟩
  | y :: t, h => by
    have ih := lentL_none (who := who) (ls := t) (fun l hl => h l (List.mem_cons_of_mem _ hl))
    have hy := h y List.mem_cons_self
    simp [lentL, usedL, LnM.lc, LnM.uc, hy, ih.1, ih.2]
def CoM.put (m : CoM) (who : Int) (p : PrM) : CoM := { m with per := fun k => if k = who then some p else m.per k }
def okCell (x : Int) : Bool := decide (1 ≤ x) && decide (x ≤ 100)
def CoM.lent (m : CoM) (who : Int) : Nat := lentL who m.loans
def CoM.chgd (m : CoM) (who : Int) : Nat := usedL who m.loans
def CoM.left (m : CoM) (who : Int) (p : PrM) : Nat := p.quota - m.lent who - m.chgd who
def CoM.new (u : Nat) : CoM := ⟨u, fun _ => none, []⟩
def CoM.joinErr (m : CoM) (who q : Int) : Int := if 1 ≤ who ∧ who ≤ 16 ∧ 0 ≤ q ∧ q ≤ 1000000000 then (match m.per who with | none => 0 | some _ => 10) else 1
def CoM.join (m : CoM) (who q : Int) : CoR := if m.joinErr who q = 0 then ⟨m.put who ⟨q.toNat, 0, 0⟩, 0⟩ else ⟨m, m.joinErr who q⟩
def CoM.askErr (m : CoM) (who : Int) (t : PrM → Bool) (cs : List Int) : Int := match m.per who with
  | none => 12
  | some p => if cs.all okCell = true then (if t p = true then 0 else 9) else 1
def CoM.move (m : CoM) (who : Int) (t : PrM → Bool) (cs : List Int) (f : PrM → PrM) : CoR := match m.per who with
  | none => ⟨m, 12⟩
  | some p => if cs.all okCell = true then (if t p = true then ⟨m.put who (f p), 0⟩ else ⟨m, 9⟩) else ⟨m, 1⟩
def tIs (s : Nat) (p : PrM) : Bool := p.st == s
def tNot (s : Nat) (p : PrM) : Bool := p.st != s
def CoM.attach (m : CoM) (who c : Int) : CoR := m.move who (tIs 0) [c] fun p => ⟨p.quota, 1, c.toNat⟩
def CoM.sleep (m : CoM) (who : Int) : CoR := m.move who (tIs 1) [] fun p => ⟨p.quota, 2, p.cell⟩
def areaL (c : Nat) : List Int := ((List.range 100).filter fun n => (n + 8) / 8 == (c + 7) / 8).map fun n => ((n + 1 : Nat) : Int)
def CoM.pageErr (m : CoM) (who : Int) : Int := m.askErr who (tNot 0) []
def CoM.page (m : CoM) (who : Int) : List Int := match m.per who with
  | none => []
  | some p => if p.st = 0 then [] else if p.st = 1 then [(p.cell : Int)] else areaL p.cell
def CoM.at (m : CoM) (g : Int) : LnM := m.loans.getD (g.toNat - 1) .zero
def CoM.repErr (m : CoM) (g t b : Int) : Int := if 1 ≤ g ∧ g ≤ (m.loans.length : Int) then
    (if 1 ≤ t ∧ t ≤ ((m.at g).turn : Int) then 10 else if t = ((m.at g).turn : Int) + 1 then
      (if (m.at g).shut = true then 9 else if 0 ≤ b ∧ b ≤ (((m.at g).bytes - (m.at g).used : Nat) : Int) then 0 else 11) else 3) else 6
def CoM.rep (m : CoM) (g b : Int) (fin : Bool) : CoM := { m with loans := m.loans.set (g.toNat - 1) ⟨(m.at g).who, (m.at g).bytes, (m.at g).used + b.toNat, (m.at g).turn + 1, fin⟩ }
def CoM.report (m : CoM) (g t b : Int) (fin : Bool) : CoR := if m.repErr g t b = 0 then ⟨m.rep g b fin, 0⟩ else ⟨m, m.repErr g t b⟩
/-- What always holds; n: how many calls there were, at the most. -/
structure CoM.Ok (m : CoM) (n : Nat) : Prop where
  u1 : 1 ≤ m.unit ∧ m.unit ≤ 1000000
  pr : ∀ who p, m.per who = some p → 1 ≤ who ∧ who ≤ 16 ∧ p.quota ≤ 1000000000 ∧ p.st ≤ 2 ∧ p.cell ≤ 100 ∧ (p.st ≠ 0 → 1 ≤ p.cell) ∧ m.lent who + m.chgd who ≤ p.quota
  ln : ∀ l ∈ m.loans, (∃ p, m.per l.who = some p) ∧ l.used ≤ l.bytes ∧ l.bytes ≤ 1000000 ∧ l.turn ≤ n
  len : m.loans.length ≤ n
theorem CoM.Ok.mono {m : CoM} {n n' : Nat} (h : m.Ok n) (hn : n ≤ n') : m.Ok n' := ⟨h.u1, h.pr, fun l hl => by
  obtain ⟨h1, h2, h3, h4⟩ := h.ln l hl
  exact ⟨h1, h2, h3, by omega⟩, by have := h.len; omega⟩
theorem CoM.Ok.new {u : Nat} (h : 1 ≤ u ∧ u ≤ 1000000) : (CoM.new u).Ok 0 := by
  refine ⟨h, fun who p hp => ?_, fun l hl => ?_, Nat.le_refl _⟩
  · cases hp
  · cases hl
theorem CoM.put_at (m : CoM) (who k : Int) (p : PrM) : (m.put who p).per k = if k = who then some p else m.per k := rfl
theorem CoM.put_lent (m : CoM) (who k : Int) (p : PrM) : (m.put who p).lent k = m.lent k ∧ (m.put who p).chgd k = m.chgd k := ⟨rfl, rfl⟩
theorem CoM.Ok.put {m : CoM} {n : Nat} {who : Int} {p : PrM} (h : m.Ok n) (hw : 1 ≤ who ∧ who ≤ 16) (hq : p.quota ≤ 1000000000 ∧ p.st ≤ 2 ∧ p.cell ≤ 100 ∧ (p.st ≠ 0 → 1 ≤ p.cell) ∧ m.lent who + m.chgd who ≤ p.quota) : (m.put who p).Ok n := by
  refine ⟨h.u1, fun k q hk => ?_, fun l hl => ?_, h.len⟩
  · rw [CoM.put_at] at hk
    split at hk
    · rename_i e
      subst e
      injection hk with hk
      subst hk
      exact ⟨hw.1, hw.2, hq⟩
    · exact h.pr k q hk
  · obtain ⟨⟨q, h1⟩, h2⟩ := h.ln l hl
    refine ⟨?_, h2⟩
    rw [CoM.put_at]
    split
    · exact ⟨_, rfl⟩
    · exact ⟨q, h1⟩
theorem CoM.Ok.fresh {m : CoM} {n : Nat} {who : Int} (h : m.Ok n) (hw : m.per who = none) : m.lent who = 0 ∧ m.chgd who = 0 := lentL_none fun l hl e => by
  obtain ⟨⟨q, h1⟩, _⟩ := h.ln l hl
  rw [e, hw] at h1
  cases h1
theorem CoM.Ok.join {m : CoM} {n : Nat} (who q : Int) (h : m.Ok n) : (m.join who q).m.Ok n := by
  unfold CoM.join
  split
  · rename_i he
    unfold CoM.joinErr at he
    split at he
    · rename_i hc
      cases hp : m.per who with
      | none =>
        have := h.fresh hp
        refine h.put ⟨hc.1, hc.2.1⟩ ⟨?_, by simp, by simp, by simp, by omega⟩
        show q.toNat ≤ _
        omega
      | some p => simp [hp] at he
    · simp at he
  · exact h
theorem CoM.Ok.move {m : CoM} {n : Nat} (who : Int) (t : PrM → Bool) (cs : List Int) (f : PrM → PrM) (h : m.Ok n) (hf : ∀ p, p.st ≤ 2 → p.cell ≤ 100 → (p.st ≠ 0 → 1 ≤ p.cell) → cs.all okCell = true → t p = true → (f p).quota = p.quota ∧ (f p).st ≤ 2 ∧ (f p).cell ≤ 100 ∧ ((f p).st ≠ 0 → 1 ≤ (f p).cell)) : (m.move who t cs f).m.Ok n := by
  unfold CoM.move
  split
  · exact h
  · rename_i p hp
    split
    · rename_i hc
      split
      · rename_i ht
        obtain ⟨h1, h2, h3, h4, h5, h6, h7⟩ := h.pr _ _ hp
        obtain ⟨f1, f2, f3, f4⟩ := hf p h4 h5 h6 hc ht
        exact h.put ⟨h1, h2⟩ ⟨by omega, f2, f3, f4, by omega⟩
      · exact h
    · exact h
theorem okCell_iff {x : Int} : okCell x = true ↔ 1 ≤ x ∧ x ≤ 100 := by simp [okCell]
theorem CoM.Ok.attach {m : CoM} {n : Nat} (who c : Int) (h : m.Ok n) : (m.attach who c).m.Ok n := h.move _ _ _ _ fun p h1 h2 h3 hc _ => by
  have := okCell_iff.1 (show okCell c = true by simpa using hc)
  refine ⟨rfl, by simp, ?_, fun _ => ?_⟩
  · show c.toNat ≤ 100
    omega
  · show 1 ≤ c.toNat
    omega
theorem CoM.Ok.sleep {m : CoM} {n : Nat} (who : Int) (h : m.Ok n) : (m.sleep who).m.Ok n := h.move _ _ _ _ fun p h1 h2 h3 _ ht => ⟨rfl, by simp, h2, fun _ => h3 (by
  have : p.st = 1 := by simpa [tIs] using ht
  omega)⟩
theorem CoM.at_mem {m : CoM} {g : Int} (h : 1 ≤ g ∧ g ≤ (m.loans.length : Int)) : m.at g ∈ m.loans := by
  unfold CoM.at
  have : g.toNat - 1 < m.loans.length := by omega
  rw [List.getD_eq_getElem?_getD, List.getElem?_eq_getElem this]
  exact List.getElem_mem this
structure RepC (m : CoM) (g t b : Int) : Prop where
  g1 : 1 ≤ g
  g2 : g ≤ (m.loans.length : Int)
  t1 : t = ((m.at g).turn : Int) + 1
  op : (m.at g).shut = false
  b0 : 0 ≤ b
  b1 : b ≤ (((m.at g).bytes - (m.at g).used : Nat) : Int)
theorem CoM.rep_ok {m : CoM} {g t b : Int} (h : m.repErr g t b = 0) : RepC m g t b := by
  unfold CoM.repErr at h
  split at h
  · rename_i h1
    split at h
    · simp at h
    · split at h
      · rename_i h2
        split at h
        · simp at h
        · rename_i h3
          split at h
          · rename_i h4
            exact ⟨h1.1, h1.2, h2, by simpa using h3, h4.1, h4.2⟩
          · simp at h
      · simp at h
  · simp at h
theorem CoM.Ok.rep {m : CoM} {n : Nat} {g t b : Int} {fin : Bool} (h : m.Ok n) (he : m.repErr g t b = 0) : (m.rep g b fin).Ok (n + 1) := by
  obtain ⟨g1, g2, -, hsh, hb0, hb1⟩ := CoM.rep_ok he
  have hi : g.toNat - 1 < m.loans.length := by omega
  obtain ⟨ha1, ha2, ha3, ha4⟩ := h.ln _ (CoM.at_mem ⟨g1, g2⟩)
  refine ⟨h.u1, fun k q hk => ?_, fun l hl => ?_, ?_⟩
  · obtain ⟨f1, f2, f3, f4, f5, f6, f7⟩ := h.pr k q hk
    refine ⟨f1, f2, f3, f4, f5, f6, ?_⟩
    have f7' : lentL k m.loans + usedL k m.loans ≤ q.quota := f7
    show lentL k (m.loans.set _ _) + usedL k (m.loans.set _ _) ≤ q.quota
    have e1 := lentL_set k ⟨(m.at g).who, (m.at g).bytes, (m.at g).used + b.toNat, (m.at g).turn + 1, fin⟩ m.loans _ hi
    have e2 := usedL_set k ⟨(m.at g).who, (m.at g).bytes, (m.at g).used + b.toNat, (m.at g).turn + 1, fin⟩ m.loans _ hi
    have ea : m.loans.getD (g.toNat - 1) .zero = m.at g := rfl
    rw [ea] at e1 e2
    generalize m.at g = y at *
    obtain ⟨yw, yb, yu, yt, ys⟩ := y
    simp only [LnM.lc, LnM.uc] at *
    subst hsh
    by_cases e : yw = k
    · subst e
      cases fin <;> simp at e1 e2 <;> omega
    · simp [e] at e1 e2
      omega
  · have hl : l ∈ m.loans.set _ _ := hl
    rcases List.mem_or_eq_of_mem_set hl with hl | rfl
    · obtain ⟨h1, h2, h3, h4⟩ := h.ln l hl
      exact ⟨h1, h2, h3, by omega⟩
    · exact ⟨ha1, by show (m.at g).used + b.toNat ≤ (m.at g).bytes; omega, ha3, by show (m.at g).turn + 1 ≤ n + 1; omega⟩
  · show (m.loans.set _ _).length ≤ n + 1
    have := h.len
    simp
    omega
theorem CoM.Ok.report {m : CoM} {n : Nat} (g t b : Int) (fin : Bool) (h : m.Ok n) : (m.report g t b fin).m.Ok (n + 1) := by
  unfold CoM.report
  split
  · rename_i he
    exact h.rep he
  · exact h.mono (by omega)
end Go.Proofs.Ytcnkcbipkchoiag
