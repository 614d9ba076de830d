import Derived.Test.YtbjgfoiikhbonafK20
import Derived.Lib.AppendStr
import Derived.Test.YtbjgfoiikhbonafK18
set_option linter.unusedVariables false
set_option linter.unusedSimpArgs false
namespace Go.Proofs.Ytbjgfoiikhbonaf
open Go.ChangeShapes Go.WideShapes Go.ChangeAt Go.RowKit
def zeroS (n : Nat) : ByteArray := ⟨Array.replicate n 0⟩
theorem zeroS_size (n : Nat) : (zeroS n).size = n := by simp [zeroS, ByteArray.size]
theorem zeroS_cells (n : Nat) : Lib.strCells (zeroS n) = (List.replicate n (0 : Int)).map (Value.int .u8) := by
  unfold Lib.strCells zeroS
  simp
theorem zero_cells (n : Nat) : Builtin.zeroCells #[Value.int .u8 0] n = (Lib.strCells (zeroS n)).toArray := by
  rw [zeroS_cells]
  refine Array.ext (by simp [Builtin.zeroCells]) fun j h1 h2 => ?_
  simp [Builtin.zeroCells, Nat.mod_one]
set_option maxHeartbeats 1000000 in
/-- 'append(s, make([]byte, n)...)' is an append of a text of noughts. -/
theorem run_append_zerosR {P : Program} (w : World) (t u st ty e : TypeId) (i : TypeInfo) (ht : P.underlying t = some (.slice e)) (hu : P.underlying u = some (.int .i64)) (hst : P.underlying st = some .string) (hi : P.info? e = some i) (hz : i.zero = some (.int .u8 0)) (hsize : i.size = 1) (hby : i.bytes = 1)
    (b : Option Addr) (sLen sCap n : Nat) (hn : sLen + n ≤ 70368744177664) :
    (Builtin.append_ #[t, u] ty #[.slice b sLen sCap, .int .i64 (n : Int)]).run P w = (Builtin.append_ #[t, st] ty #[.slice b sLen sCap, .string (zeroS n)]).run P w := by
  have hw : IntKind.i64.wrap (n : Int) = (n : Int) := by rw [IntKind.wrap_i64]; omega
  have h0 : ¬ ((n : Int) < 0) := by omega
  have h48 : ¬ ((281474976710656 : Int) < (n : Int)) := by omega
  have hz1 : (Value.int IntKind.u8 0).cells = #[Value.int .u8 0] := rfl
  have hs := zeroS_size n
  have hai : ∀ (m : Int) (W : World), (asInt (.int .i64 m)).run P W = .ok m W := fun m W => by simp [asInt, asIntOf]
  have hw0 : IntKind.i64.wrap 0 = 0 := by decide
  by_cases hr : sLen + n ≤ sCap
  · by_cases hn0 : n = 0
    · subst hn0
      have hf := Lib.run_firstCells_string (P := P) w 1 (zeroS 0)
      have he : Lib.strCells (zeroS 0) = [] := rfl
      rw [hs, he] at hf
      have hr' : sLen ≤ sCap := hr
      simp [Builtin.append_, run_underlying ht, run_underlying hu, run_underlying hst, sizeOf, typeInfo, hi, hsize, hby, Builtin.lenOf, hs, hf, hai, hw0, hr']
    · have hf := Lib.run_firstCells_string (P := P) w 1 (zeroS n)
      rw [hs] at hf
      simp [Builtin.append_, run_underlying ht, run_underlying hu, run_underlying hst, sizeOf, typeInfo, zeroValue, hi, hz, hsize, hby, Builtin.lenOf, hs, hf, hai, hw, h0, h48, hr, hn0, hz1, zero_cells]
  · have h63 : ¬ (9223372036854775807 < ((sLen : Int) + (n : Int))) := by omega
    have hg := growslice_fits (need := sLen + n) (old := sCap) (bytes := 1) (by omega) (by omega)
    rw [Nat.mul_one] at hg
    have hg' : ¬ (281474976710656 < Builtin.nextslicecap (sLen + n) sCap) := by omega
    by_cases hn0 : n = 0
    · subst hn0
      have hf : ∀ W : World, (Builtin.firstCells 1 0 (.string (zeroS 0))).run P W = .ok #[] W := fun W => by
        have hf := Lib.run_firstCells_string (P := P) W 1 (zeroS 0)
        have he : Lib.strCells (zeroS 0) = [] := rfl
        rw [hs, he] at hf
        exact hf
      have hr' : ¬ sLen ≤ sCap := hr
      have h63' : ¬ (9223372036854775807 < (sLen : Int)) := by omega
      have hg'' : ¬ (281474976710656 < Builtin.nextslicecap sLen sCap) := hg'
      simp [Builtin.append_, run_underlying ht, run_underlying hu, run_underlying hst, sizeOf, typeInfo, zeroValue, hi, hz, hsize, hby, Builtin.lenOf, hs, hf, hai, hw0, hr', h63', hg'']
    · have hf : ∀ W : World, (Builtin.firstCells 1 n (.string (zeroS n))).run P W = .ok (Lib.strCells (zeroS n)).toArray W := fun W => by
        have hf := Lib.run_firstCells_string (P := P) W 1 (zeroS n)
        rw [hs] at hf
        exact hf
      simp [Builtin.append_, run_underlying ht, run_underlying hu, run_underlying hst, sizeOf, typeInfo, zeroValue, hi, hz, hsize, hby, Builtin.lenOf, hs, hf, hai, hw, h0, h48, hr, h63, hg', hn0, hz1, zero_cells]
theorem Own.zeros {w : World} {v : Value} {L : List Int} {n : Nat} (h : Own w 0 v L) (hlen : L.length + n ≤ 70368744177664) :
    ∃ v' W, (∀ ty, (Builtin.append_ #[108, 3] ty #[v, .int .i64 (n : Int)]).run Try.prog w = .ok v' W) ∧ Own W 0 v' (L ++ List.replicate n 0) ∧ w.grownBy W v.ownBlock ∧ (∀ g, v'.ownBlock = some g → v.ownBlock = some g ∨ w.heap.size ≤ g) := by
  obtain ⟨i0, hi, hz0, hz1, hz2⟩ := info_parts Try.info5
  obtain ⟨b, c, e, -, -, -⟩ := Own.shape h
  subst e
  have hsz := zeroS_size n
  obtain ⟨v', w', hr, h2, h3, h4⟩ := Lib.run_append_own_string (P := Try.prog) w 0 108 9 0 5 i0 Try.underlying108 Try.underlying9 hi hz0 hz1 hz2 _ _ _ h (zeroS n) (by rw [hsz]; unfold maxLen; omega) (by rw [hsz]; omega) (Nat.zero_le _)
  have hr' : ∀ ty, (Builtin.append_ #[108, 3] ty #[.slice b L.length c, .int .i64 (n : Int)]).run Try.prog w = .ok v' w' := fun ty => by
    rw [run_append_zerosR w 108 3 9 ty 5 i0 Try.underlying108 Try.underlying3 Try.underlying9 hi hz0 hz1 hz2 b L.length c n hlen]
    exact hr
  refine ⟨v', w', hr', ?_, h3, ?_⟩
  · rw [zeroS_cells, hsz] at h2
    unfold Own
    rw [List.length_append, List.length_replicate, List.map_append]
    exact h2
  · intro q hq
    rcases h.2 with ⟨e, -⟩ | ⟨gq, cap, cur, e, -, hg, hnc, hcm, hcs, htake⟩
    · rw [e] at hr
      by_cases hn : n = 0
      · have e' := h4.2 ⟨e, by rw [hsz]; exact hn⟩
        rw [e'] at hq
        simp [Value.ownBlock] at hq
      · have hr2 := run_append_nil_string (P := Try.prog) w 108 9 0 5 i0 (.int .u8 0) Try.underlying108 Try.underlying9 hi hz0 (zeroS n) (by rw [hsz]; omega) (by rw [hsz]; omega) (by rw [hz2, hsz]; omega)
        rw [hr] at hr2
        injection hr2 with e1 e2
        rw [e1] at hq
        simp [Value.ownBlock] at hq
        exact .inr (by omega)
    · rw [e] at hr
      have hl := h.1
      have hcs' : cur.size = cap := by simpa using hcs
      by_cases hroom : L.length + (zeroS n).size ≤ cap
      · have hr2 := Lib.run_append_room_string (P := Try.prog) w 108 9 0 5 i0 Try.underlying108 Try.underlying9 hi hz1 gq L.length cap cur hg (zeroS n) hroom (by omega)
        rw [hr] at hr2
        injection hr2 with e1 e2
        rw [e1] at hq
        rw [e]
        simp only [Value.ownBlock] at hq ⊢
        exact .inl hq
      · have h' := h
        rw [e] at h'
        have holds : ∀ j u, (L.map (Value.int .u8))[j]? = some u → w.cell? ((⟨gq, 0, none⟩ : Addr).add j) = some u := World.ownsRow.cells h' (g := gq) rfl
        have hr2 := Lib.run_append_grow_string (P := Try.prog) w 108 9 0 5 i0 (.int .u8 0) Try.underlying108 Try.underlying9 hi hz0 ⟨gq, 0, none⟩ L.length cap (L.map (Value.int .u8)) (by rw [hz1]; simp) holds (zeroS n) (by omega) (by rw [hsz]; omega) (by rw [hz2]; exact growslice_fits (by rw [hsz]; omega) (by omega))
        rw [hr] at hr2
        injection hr2 with e1 e2
        rw [e1] at hq
        simp [Value.ownBlock] at hq
        exact .inr (by omega)
end Go.Proofs.Ytbjgfoiikhbonaf
namespace Go.Proofs.Ytbjgfoiikhbonaf
open Go.ChangeShapes Go.WideShapes Go.ChangeAt Go.RowKit
set_option maxRecDepth 100000 in
set_option maxHeartbeats 1000000 in
theorem rbegun_any {w : World} {b fs g c : Nat} {us : List TkP} (h : PRcv w b fs g c us) (hl : us.length ≤ 32) (hth : ∀ i, (us.getD i .zero).th.length ≤ 4000) :
    Calls Try.prog 52 #[.pointer (some ⟨b, 0, none⟩)] w fun e w' => ∃ k, k ≤ us.length ∧ e = .returned (.int .i64 ((k : Nat) : Int)) ∧ (0 < k → (us.getD (k - 1) .zero).th ≠ []) ∧ (∀ j, k ≤ j → j < us.length → (us.getD j .zero).th = []) ∧ w' = w := by
  have c1 : w.cell? ⟨b, 1, none⟩ = some (.slice (some ⟨g, 0, none⟩) us.length c) := h.hd.cell 1
  obtain ⟨N, hN⟩ : ∃ N, N = us.length := ⟨_, rfl⟩
  rw [← hN] at c1 hl
  have H := hid h
  have HN := hid hN
  generalize hP : (fun (e : Ending) (w' : World) => ∃ k, k ≤ us.length ∧ e = .returned (.int .i64 ((k : Nat) : Int)) ∧ (0 < k → (us.getD (k - 1) .zero).th ≠ []) ∧ (∀ j, k ≤ j → j < us.length → (us.getD j .zero).th = []) ∧ w' = w) = P
  have HP := hid hP
  clear h hN hP
  go_enter Try.func52, Try.ntmps52
  go_wp2_with fail
  go_loopw [3] (fun v wr => ∃ k : Nat, k ≤ N ∧ v = .int .i64 (k : Int) ∧ (∀ j, k ≤ j → j < N → (us.getD j .zero).th = []) ∧ Hid (wr = w)) (fun v _ => (intOf v).toNat)
  case atStart => exact ⟨N, Nat.le_refl _, rfl, fun j h1 h2 => by omega, hid rfl⟩
  case round =>
    obtain ⟨k, hk, rfl, hz, hw⟩ := hrel
    have hw := hw.out
    subst hw
    have HZ := hid hz
    clear hz
    by_cases h0 : k = 0
    · subst h0
      go_wp2_with fail
      rw [← HP.out]
      exact ⟨0, Nat.zero_le _, rfl, fun h => absurd h (Nat.lt_irrefl _), fun j h1 h2 => HZ.out j h1 (by rw [HN.out]; exact h2), rfl⟩
    · obtain ⟨m, rfl⟩ : ∃ m, k = m + 1 := ⟨k - 1, by omega⟩
      have hu := H.out.un (i := m) (by rw [← HN.out]; omega)
      have hlt := hth m
      have u1 := hu.c1
      obtain ⟨aT, cT, eT, -, -, -⟩ := hu.ot.shape
      rw [eT] at u1
      have hEM : Hid ((us.getD m .zero).th.length = 0 → (us.getD m .zero).th = []) := hid fun h => List.eq_nil_of_length_eq_zero h
      have hEM2 : Hid ((us.getD m .zero).th = [] → (us.getD m .zero).th.length = 0) := hid fun h => by rw [h]; rfl
      clear hu eT
      generalize (us.getD m .zero).th.length = L at *
      have hwm : IntKind.i64.wrap (((m + 1 : Nat) : Int) - 1) = (m : Int) := by rw [IntKind.wrap_i64]; omega
      have hwm2 : IntKind.i64.wrap ((m : Int) + 1 - 1) = (m : Int) := by rw [IntKind.wrap_i64]; omega
      have hms : (m : Int) + 1 - 1 = (m : Int) := by omega
      have hpos : (0 : Int) < (m : Int) + 1 := by omega
      have d0 : decide ((0 : Int) < (m : Int) + 1) = true := decide_eq_true hpos
      have hmN : m < N := by omega
      by_cases hL : L = 0
      · subst hL
        go_wp2_with fail
        go_roundw
        case rel =>
          refine ⟨m, by omega, by go_num, fun j h1 h2 => ?_, by first | exact hid rfl | exact hid trivial⟩
          by_cases hj : j = m
          · subst hj; exact hEM.out rfl
          · exact HZ.out j (by omega) h2
        case measure => simp [intOf]
      · have hne : ((L : Int) == 0) = false := by rw [beq_eq_false_iff_ne]; omega
        have hne2 : ¬ ((L : Int) = 0) := by omega
        go_wp2_with fail
        rw [← HP.out]
        refine ⟨m + 1, by rw [← HN.out]; exact hk, rfl, fun _ e => hL (hEM2.out e), fun j h1 h2 => HZ.out j h1 (by rw [HN.out]; exact h2), rfl⟩
theorem run_append_room0 {P : Program} (w : World) (t tn ty e tb : TypeId) (i : TypeInfo) (z : Value) (ht : P.underlying t = some (.slice e)) (htn : P.underlying tn = some (.int .i64)) (hi : P.info? e = some i) (hz : i.zero = some z) (hs : i.size = z.cells.size) (h0 : 0 < z.cells.size)
    (g sLen sCap n : Nat) (cur : List Value) (hg : At w g tb cur) (hn : 0 < n) (hroom : sLen + n ≤ sCap) (hb : n * i.bytes ≤ 281474976710656) (hn63 : n ≤ 4611686018427387904) (hfit : sLen * z.cells.size + n * z.cells.size ≤ cur.length) (h1 : ∀ v ∈ (Builtin.zeroCells z.cells n).toList, v.oneCell' = true) :
    (Builtin.append_ #[t, tn] ty #[.slice (some ⟨g, 0, none⟩) sLen sCap, .int .i64 (n : Int)]).run P w = .ok (.slice (some ⟨g, 0, none⟩) (sLen + n) sCap) (w.setRow g (splice cur (sLen * z.cells.size) (Builtin.zeroCells z.cells n).toList).toArray) := by
  have hl : (Builtin.zeroCells z.cells n).toList.length = n * z.cells.size := by rw [Array.length_toList, size_zeroCells]
  have hst := run_storeCells_at P g (sLen * z.cells.size) tb (Builtin.zeroCells z.cells n).toList 0 cur.toArray w hg (by rw [hl]; simpa using hfit) h1
  simp only [Nat.add_zero] at hst
  have hw : IntKind.i64.wrap (n : Int) = (n : Int) := by rw [IntKind.wrap_i64]; omega
  have hn0 : ¬ ((n : Int) < 0) := by omega
  have h48 : ¬ ((281474976710656 : Int) < (n : Int) * (i.bytes : Int)) := by
    have : ((n * i.bytes : Nat) : Int) ≤ 281474976710656 := by omega
    rw [Int.natCast_mul] at this
    omega
  have hne : n ≠ 0 := by omega
  have hke : z.cells.size ≠ 0 := by omega
  have hai : ∀ (m : Int) (W : World), (asInt (.int .i64 m)).run P W = .ok m W := fun m W => by simp [asInt, asIntOf]
  simp [Builtin.append_, run_underlying ht, run_underlying htn, sizeOf, typeInfo, zeroValue, hi, hz, hs, hai, hw, hn0, h48, hroom, Addr.add_lit, hst, splice]
  exact fun hh => absurd hh (Nat.mul_ne_zero hne hke)
theorem tk_zeros {w : World} {g n c m : Nat} {xs : List Value} (h : w.ownsRow 0 120 3 (.slice (some ⟨g, 0, none⟩) n c) n xs) (hroom : n + m ≤ c) (hm : m ≤ 32) :
    ∃ W, (∀ ty, (Builtin.append_ #[101, 3] ty #[.slice (some ⟨g, 0, none⟩) n c, .int .i64 (m : Int)]).run Try.prog w = .ok (.slice (some ⟨g, 0, none⟩) (n + m) c) W) ∧ W.ownsRow 0 120 3 (.slice (some ⟨g, 0, none⟩) (n + m) c) (n + m) (xs ++ cellsTk (List.replicate m .zero)) ∧ Kept [g] w W := by
  obtain ⟨i0, hi, hz0, hz1, hz2⟩ := info_parts Try.infoTk
  obtain ⟨cur, hA, -, hnc, hcm, hcl, hct, hxl⟩ := row_at h
  by_cases h0 : m = 0
  · subst h0
    refine ⟨w, fun ty => ?_, ?_, Kept.refl _ _⟩
    · have hai : ∀ (m : Int) (W : World), (asInt (.int .i64 m)).run Try.prog W = .ok m W := fun m W => by simp [asInt, asIntOf]
      have hw0 : IntKind.i64.wrap 0 = 0 := by decide
      have hst : (storeCells ⟨g, n * 3, none⟩ []).run Try.prog w = .ok () w := by simp [storeCells]
      simp [Builtin.append_, run_underlying Try.underlying101, run_underlying Try.underlying3, sizeOf, typeInfo, hi, hz1, hai, hw0, hnc, Addr.add_lit, hst]
    · have e : cellsTk (List.replicate 0 TkP.zero) = [] := rfl
      rw [e, List.append_nil]
      exact h
  · have hzc := zeroCells_tk m
    have hzl : (cellsTk (List.replicate m TkP.zero)).length = m * 3 := by rw [cellsTk_len, List.length_replicate]
    refine ⟨_, fun ty => run_append_room0 w 101 3 ty 120 120 i0 _ Try.underlying101 Try.underlying3 hi hz0 (by rw [hz1]; rfl) (by decide) g n c m cur hA (by omega) hroom (by rw [hz2]; omega) (by omega) (by show n * 3 + m * 3 ≤ _; omega) (fun v hv => ?_), ?_, kept_setRow _ _ _⟩
    · have := zero_mem hv
      have : v ∈ (#[.slice none 0 0, .slice none 0 0, .int .i64 0] : Array Value) := this
      simp at this
      rcases this with rfl | rfl <;> rfl
    · have e : (Builtin.zeroCells (Value.agg #[.slice none 0 0, .slice none 0 0, .int .i64 0]).cells m).toList = cellsTk (List.replicate m .zero) := hzc
      rw [e]
      refine At.row hA.set ?_ hroom hcm ?_ ?_
      · rw [List.length_append, hzl, hxl]; omega
      · show (splice cur (n * 3) _).length = _
        unfold splice
        simp only [List.length_append, List.length_take, List.length_drop, hzl]
        omega
      · show (splice cur (n * 3) _).take _ = _
        unfold splice
        rw [hct, ← List.append_assoc, List.take_append_of_le_length (by rw [List.length_append, hxl, hzl]; omega), List.take_of_length_le (by rw [List.length_append, hxl, hzl]; omega)]
end Go.Proofs.Ytbjgfoiikhbonaf
namespace Go.Proofs.Ytbjgfoiikhbonaf
open Go.ChangeShapes Go.WideShapes Go.ChangeAt Go.RowKit
def repErr (bg : Nat) (us : List UnP) (r : ReportM) : Int :=
  if r.next < 0 ∨ 63 < r.next then 3 else if lead sentP us < aheadN r.next bg then 3 else if r.miss.all (gapOkP bg (aheadN r.next bg) us) = true then 0 else 3
set_option maxRecDepth 100000 in
set_option maxHeartbeats 1000000 in
theorem checkReport_any {w : World} {b win bg : Nat} {ua : Option Addr} {c : Nat} {us : List UnP} (r : ReportM) (a : Option Addr) (n cc : Nat) (h : PSnd w b win bg ua c us) (hbg : bg < 64) (hl : us.length ≤ 4000) (hsz : ∀ i, i < us.length → (us.getD i .zero).text.size ≤ 1500) (hG : Gps w a r.miss) (hn : r.miss.length = n) (hm : n ≤ maxLen) :
    Calls Try.prog 47 #[.pointer (some ⟨b, 0, none⟩), .agg #[.int .i64 r.next, .slice a n cc]] w fun e w' => e = .returned (.int .i64 (repErr bg us r)) ∧ Below w.heap.size w w' := by
  obtain ⟨-, c1, c2⟩ := h.head
  have hA := at_alloc w 73 [.int .i64 r.next, .slice a n cc]
  have hk : Kept [] w (w.alloc (.cells #[.int .i64 r.next, .slice a n cc] 73)) := (Kept.refl _ w).alloc _
  have hP := h.kept hk (fun x _ => by simp)
  have hGk := hG.kept hk (fun x _ => by simp)
  have k1 := keptCellQ hk c1 (by simp)
  have x0 : (w.alloc (.cells #[.int .i64 r.next, .slice a n cc] 73)).cell? ⟨w.heap.size, 0, none⟩ = some (.int .i64 r.next) := hA.cell 0
  have x1 : (w.alloc (.cells #[.int .i64 r.next, .slice a n cc] 73)).cell? ⟨w.heap.size, 1, none⟩ = some (.slice a n cc) := hA.cell 1
  have hB : Below w.heap.size w (w.alloc (.cells #[.int .i64 r.next, .slice a n cc] 73)) := (Below.refl _ w).alloc (Nat.le_refl _) _
  have hnum := fun W => isNumber_any r.next W
  have hsz0 : (w.alloc (.cells #[.int .i64 r.next, .slice a n cc] 73)).heap.size = w.heap.size + 1 := World.size_alloc _ _
  obtain ⟨V, hV⟩ : ∃ V, V = repErr bg us r := ⟨_, rfl⟩
  rw [← hV]
  have hm' : n ≤ 9223372036854775807 := by unfold maxLen at hm; omega
  have HPk := hid hP
  have HGk := hid hGk
  have HB := hid hB
  have HN := hid hn
  have HSZ := hid hsz
  have HS0 := hid hsz0
  have HHL := hid hl
  obtain ⟨next, miss⟩ := r
  dsimp only at *
  have c1' := c1
  clear h hG hA hk c1 c2 hP hGk hB hm hsz hsz0 hn
  by_cases q1 : next < 0 ∨ 63 < next
  · rw [show decide (0 ≤ next ∧ next ≤ 63) = false from decide_eq_false (by omega)] at hnum
    have HV := hid (show V = 3 by rw [hV]; unfold repErr; rw [if_pos q1])
    clear hV q1 hl
    go_enter Try.func47, Try.ntmps47
    go_upto_region 1 with fail
    go_quiet (first | (go_at_call 59; exact Calls.quiet_of_same (hnum _)))
    go_wp2_with fail
    go_ret
    exact ⟨by rw [HV.out]; rfl, belowN HB.out _⟩
  · rw [show decide (0 ≤ next ∧ next ≤ 63) = true from decide_eq_true (by omega)] at hnum
    have hah := fun W => ahead_at (k := next) (bg := bg) W hbg (by omega) (by omega)
    have hbe : ∀ m, Calls Try.prog 65 #[.pointer (some ⟨b, 0, none⟩)] ((w.alloc (.cells #[.int .i64 next, .slice a n cc] 73)).drewN m) fun e w' => e = .returned (.int .i64 ((lead sentP us : Nat) : Int)) ∧ w' = (w.alloc (.cells #[.int .i64 next, .slice a n cc] 73)).drewN m := fun m => begun_any (HPk.out.kept ((Kept.refl [] _).drewN m) (by simp)) (by omega)
    by_cases q2 : lead sentP us < aheadN next bg
    · have HV := hid (show V = 3 by rw [hV]; unfold repErr; rw [if_neg q1, if_pos q2])
      clear hV q1 hl
      generalize lead sentP us = L at *
      generalize aheadN next bg = A at *
      go_enter Try.func47, Try.ntmps47
      go_upto_region 1 with fail
      go_quiet (first | (go_at_call 59; exact Calls.quiet_of_same (hnum _)) | (go_at_call 40; exact Calls.quiet_of_same (hah _)) | (go_at_call 65; exact Calls.quiet_of_same (hbe _)))
      go_wp2_with fail
      go_ret
      exact ⟨by rw [HV.out]; rfl, belowN HB.out _⟩
    · have hVV := hid (show V = if miss.all (gapOkP bg (aheadN next bg) us) = true then 0 else 3 by rw [hV]; unfold repErr; rw [if_neg q1, if_neg q2])
      have hAl : aheadN next bg ≤ us.length := by have := lead_le sentP us; omega
      have hcg : ∀ W, Below w.heap.size w W → PSnd W b win bg ua c us → ∀ g : GapM, Calls Try.prog 66 #[.pointer (some ⟨b, 0, none⟩), g.val, .int .i64 ((aheadN next bg : Nat) : Int)] W fun e w' => e = .returned (.int .i64 (gapErr bg (aheadN next bg) us g)) ∧ Below W.heap.size W w' := fun W _ hW g => checkGap_any g hW hbg hAl HHL.out HSZ.out
      have q2' : ¬ (lead sentP us < aheadN next bg) := q2
      clear hV q1 hl q2
      generalize lead sentP us = L at *
      generalize hAA : aheadN next bg = A at *
      go_enter Try.func47, Try.ntmps47
      go_upto_region 1 with fail
      go_quiet (first | (go_at_call 59; exact Calls.quiet_of_same (hnum _)) | (go_at_call 40; exact Calls.quiet_of_same (hah _)) | (go_at_call 65; exact Calls.quiet_of_same (hbe _)))
      go_wp2_with fail
      have HAA := hid hAA
      have hbl : b < w.heap.size := by
        have h1 := HPk.out.hd.lt
        have h2 := HB.out
        exact World.block_lt_of_cell? w ⟨b, 1, none⟩ c1'
      go_loopw [27] (fun vi wr => ∃ k : Nat, k ≤ n ∧ vi = .int .i64 k ∧ Hid (∀ j, j < k → gapOkP bg A us (miss.getD j .zero) = true) ∧ Below (w.heap.size + 1) (w.alloc (.cells #[.int .i64 next, .slice a n cc] 73)) wr) (fun vi _ => n - (intOf vi).toNat)
      case atStart => exact ⟨0, by omega, rfl, hid (fun j hj => by omega), belowN (Below.refl _ _) _⟩
      case round =>
        obtain ⟨k, hk, rfl, HJ, hb⟩ := hrel
        have hbw : Below w.heap.size w wr := HB.out.trans (hb.mono (by omega))
        by_cases hkn : k < n
        · obtain ⟨gb, go, rfl, hC⟩ := HGk.out (by intro e; have := HN.out; rw [e] at this; simp at this; omega)
          obtain ⟨e0, e1, e2⟩ := hC k (by rw [HN.out]; exact hkn)
          have hgbl : gb < w.heap.size + 1 := by have := World.block_lt_of_cell? _ _ e0; rw [HS0.out] at this; exact this
          have f0 := (World.cell?_of_block (hb.block gb hgbl)).trans e0
          have f1 := (World.cell?_of_block (hb.block gb hgbl)).trans e1
          have f2 := (World.cell?_of_block (hb.block gb hgbl)).trans e2
          have HBW := hid hbw
          have HBb := hid hb
          have y0 := (World.cell?_of_block (hb.block w.heap.size (by omega))).trans x0
          have y1 := (World.cell?_of_block (hb.block b (by omega))).trans k1
          have hszr : w.heap.size + 1 ≤ wr.heap.size := by have := hb.size; rw [HS0.out] at this; exact this
          clear hC e0 e1 e2 hb hbw
          generalize hgg : miss.getD k .zero = g at *
          have HGG := hid hgg
          clear hgg
          obtain ⟨num, frm, til⟩ := g
          dsimp only at f0 f1 f2
          go_upto_region 6 with fail
          have hkA : Kept [] wr (wr.alloc (.cells #[.int .i64 num, .int .i64 frm, .int .i64 til] 130)) := (Kept.refl _ wr).alloc _
          have hAG := at_alloc wr 130 [.int .i64 num, .int .i64 frm, .int .i64 til]
          have hszA : wr.heap.size < (wr.alloc (.cells #[.int .i64 num, .int .i64 frm, .int .i64 til] 130)).heap.size := by simp
          generalize wr.alloc (.cells #[.int .i64 num, .int .i64 frm, .int .i64 til] 130) = W1 at *
          have z0 := keptCellQ hkA y0 (by simp)
          have z1 := keptCellQ hkA y1 (by simp)
          have g0 : W1.cell? ⟨wr.heap.size, 0, none⟩ = some (.int .i64 num) := hAG.cell 0
          have g1 : W1.cell? ⟨wr.heap.size, 1, none⟩ = some (.int .i64 frm) := hAG.cell 1
          have g2 : W1.cell? ⟨wr.heap.size, 2, none⟩ = some (.int .i64 til) := hAG.cell 2
          have hcW : ∀ q, Calls Try.prog 66 #[.pointer (some ⟨b, 0, none⟩), .agg #[.int .i64 num, .int .i64 frm, .int .i64 til], .int .i64 (A : Int)] (W1.drewN q) fun e w' => e = .returned (.int .i64 (gapErr bg A us ⟨num, frm, til⟩)) ∧ Below W1.heap.size W1 w' := fun q => by
            have hP1 : PSnd (W1.drewN q) b win bg ua c us := (HPk.out.kept (T := []) (Kept.of_below (by rw [HS0.out]; exact HBb.out)) (by simp)).kept (hkA.drewN q) (by simp)
            exact (hcg _ (HBW.out.trans (Kept.below (hkA.drewN q) (HBW.out.size) (by simp))) hP1 ⟨num, frm, til⟩).mono (fun e w' h' => ⟨h'.1, (belowN (Below.refl _ W1) q).trans h'.2⟩)
          have HKA := hid hkA
          clear hkA hAG hcg y0 y1 f0 f1 f2
          generalize hER : gapErr bg A us ⟨num, frm, til⟩ = ER at *
          have HER := hid hER
          clear hER
          go_cut [7] from 28 to 44 (fun t wx => t = .int .i64 ER ∧ Below W1.heap.size W1 wx)
          case first =>
            go_region_with (first | (go_at_call 40; refine (hah _).mono ?_; rintro e w2 ⟨rfl, rfl⟩) | (go_at_call 66; refine (hcW _).mono ?_; rintro e w2 ⟨rfl, hb2⟩))
            all_goals (go_wp2; go_meet; exact ⟨rfl, hb2⟩)
          case rest =>
            obtain ⟨rfl, hbc⟩ := hcut
            have hbd := (HBb.out.trans (Kept.below HKA.out hszr (by simp))).trans (hbc.mono (by omega))
            have HBD := hid hbd
            have HBD2 := hid (HB.out.trans (hbd.mono (by omega)))
            clear hbc hbd z0 z1 g0 g1 g2 x0 x1 k1
            by_cases q5 : gapOkP bg A us ⟨num, frm, til⟩ = true
            · have e5 : ER = 0 := by rw [← HER.out]; unfold gapErr; rw [if_pos q5]
              subst e5
              go_wp2_with fail
              refine ⟨⟨k + 1, by omega, by go_num, hid (fun j hj => ?_), HBD.out⟩, by simp [intOf]; omega⟩
              rcases Nat.lt_or_ge j k with h' | h'
              · exact HJ.out j h'
              · rw [show j = k by omega, HGG.out]
                exact q5
            · have e5 : ER = 3 := by rw [← HER.out]; unfold gapErr; rw [if_neg q5]
              subst e5
              have HV := hid (show V = 3 by
                rw [hVV.out, if_neg]
                intro h'
                have := List.all_eq_true.1 h' (miss.getD k .zero) (by
                  rw [List.getD_eq_getElem?_getD, List.getElem?_eq_getElem (by rw [HN.out]; exact hkn)]
                  exact List.getElem_mem _)
                rw [HGG.out] at this
                exact q5 this)
              go_wp2_with fail
              go_ret
              exact ⟨by rw [HV.out]; rfl, HBD2.out⟩
        · have HV := hid (show V = 0 by
            rw [hVV.out, if_pos]
            refine List.all_eq_true.2 fun g hg => ?_
            obtain ⟨j, hj, rfl⟩ := List.mem_iff_getElem.1 hg
            have := HJ.out j (by rw [HN.out] at hj; omega)
            rw [List.getD_eq_getElem?_getD, List.getElem?_eq_getElem hj] at this
            exact this)
          go_wp2_with fail
          go_ret
          exact ⟨by rw [HV.out]; rfl, hbw⟩
end Go.Proofs.Ytbjgfoiikhbonaf
