import Derived.Test.YtbmdjfolfmgmmagK17
namespace Go.Proofs.Ytbmdjfolfmgmmag
open Go.ChangeShapes Go.WideShapes Go.ChangeAt Go.RowKit
theorem rconf_bad {w : World} {g : Nat} {v : Value} {L : List ByteArray} {m : SdM} {c : Int} (h : PGv w g v L m) (hc : c < 0 ∨ (m.nxt : Int) ≤ c) :
    Calls Try.prog 11 #[.pointer (some ⟨g, 0, none⟩), .int .i64 c] w fun e w' => e = .returned (.int .i64 6) ∧ Below w.heap.size w w' := by
  obtain ⟨a, cp, rfl, -, -, -⟩ := row_shape h.row
  have c1 : w.cell? ⟨g, 1, none⟩ = some (.slice a L.length cp) := h.hd.cell 1
  have hlen := h.len
  obtain ⟨M, eM⟩ : ∃ M, M = L.length := ⟨_, rfl⟩
  rw [← eM] at c1
  have hc' : c < 0 ∨ (M : Int) ≤ c := by rw [eM, hlen]; exact hc
  clear h eM hlen hc
  by_cases h0 : c < 0
  · clear hc'
    go_enter Try.func11, Try.ntmps11
    go_wp2_with fail
    go_ret
    exact ⟨rfl, Below.refl _ _⟩
  · have h1 : (M : Int) ≤ c := by omega
    go_enter Try.func11, Try.ntmps11
    go_wp2_with fail
    go_ret
    exact ⟨rfl, Below.refl _ _⟩
theorem PGv.confirmed {w : World} {g : Nat} {v : Value} {L : List ByteArray} {m : SdM} {c : Nat} (h : PGv w g v L m) (hc : c < m.nxt) (hb : m.beg < c + 1) : PGv (w.setCell ⟨g, 2, none⟩ (.int .i64 ((c : Int) + 1))) g v L (m.confirm c) := by
  have hk : Kept [g] w (w.setCell ⟨g, 2, none⟩ (.int .i64 ((c : Int) + 1))) := (Kept.refl _ w).setCell (by simp) _
  have eb : m.beg + m.freshN c = c + 1 := by unfold SdM.freshN; omega
  refine ⟨?_, row_kept h.row hk (fun x hx e => h.ne (by rw [List.mem_singleton] at e; rw [← e]; exact hx)), h.ne, h.ok.confirm hc, ?_, ?_, h.small⟩
  · have h1 := h.hd.setCellG 2 (.int .i64 ((c : Int) + 1))
    have e2 : (((m.confirm c).beg : Nat) : Int) = (c : Int) + 1 := by show ((m.beg + m.freshN c : Nat) : Int) = _; omega
    rw [e2]
    exact h1
  · rw [h.len]
    show m.beg + m.wait.length = m.beg + m.freshN c + (m.wait.drop (m.freshN c)).length
    have : c < m.beg + m.wait.length := hc
    rw [List.length_drop]
    omega
  · show L.drop (m.beg + m.freshN c) = m.wait.drop (m.freshN c)
    rw [← h.wait, List.drop_drop]
theorem rconf_ok {w : World} {g : Nat} {v : Value} {L : List ByteArray} {m : SdM} {c : Nat} (h : PGv w g v L m) (hc : c < m.nxt) :
    Calls Try.prog 11 #[.pointer (some ⟨g, 0, none⟩), .int .i64 (c : Int)] w (GvPost w g v L (m.confirm c) (.int .i64 0)) := by
  obtain ⟨a, cp, rfl, -, -, -⟩ := row_shape h.row
  have c1 : w.cell? ⟨g, 1, none⟩ = some (.slice a L.length cp) := h.hd.cell 1
  have c2 : w.cell? ⟨g, 2, none⟩ = some (.int .i64 (m.beg : Int)) := h.hd.cell 2
  have f2 := h.hd.free 2
  have hlen := h.len
  have hfw : m.nxt ≤ 16777216 := h.ok.few
  obtain ⟨M, eM⟩ : ∃ M, M = L.length := ⟨_, rfl⟩
  rw [← eM] at c1
  have hI : (c : Int) < (M : Int) := by rw [eM, hlen]; omega
  by_cases hb : m.beg < c + 1
  · have HP := hid (h.confirmed hc hb)
    have hb' : (m.beg : Int) < (c : Int) + 1 := by omega
    obtain ⟨C, eC⟩ : ∃ C : Int, C = (c : Int) := ⟨_, rfl⟩
    have hC0 : 0 ≤ C ∧ C ≤ 16777216 := by omega
    rw [← eC] at hI hb' HP ⊢
    clear eC hlen hfw hc h eM
    go_enter Try.func11, Try.ntmps11
    go_wp2_with fail
    go_ret
    exact ⟨rfl, (Kept.refl _ w).setCell (by simp [gvF]) _, _, HP.out, fun x hx => .inl hx⟩
  · have e : m.confirm c = m := by unfold SdM.confirm SdM.freshN; rw [show c + 1 - m.beg = 0 by omega]; rfl
    rw [e]
    have HP := hid h
    have hb' : ¬ (m.beg : Int) < (c : Int) + 1 := by omega
    obtain ⟨C, eC⟩ : ∃ C : Int, C = (c : Int) := ⟨_, rfl⟩
    have hC0 : 0 ≤ C ∧ C ≤ 16777216 := by omega
    rw [← eC] at hI hb' ⊢
    clear eC hlen hfw hc h eM e
    go_enter Try.func11, Try.ntmps11
    go_wp2_with fail
    go_ret
    exact ⟨rfl, Kept.refl _ w, _, HP.out, fun x hx => .inl hx⟩
theorem rmove_bad {w : World} {p : Addr} {k : Int} (hk : keyOk k = false) :
    Calls Try.prog 13 #[.pointer (some p), .int .i64 k] w fun e w' => e = .returned (.tuple #[.slice none 0 0, .int .i64 1]) ∧ Below w.heap.size w w' := by
  have hc := fun wz => rkey_any k wz
  rw [hk] at hc
  clear hk
  go_enter Try.func13, Try.ntmps13
  go_wp2_with (go_at_call 7; refine (hc _).mono ?_; rintro e w' ⟨rfl, rfl⟩)
  go_ret2
  exact ⟨rfl, Below.refl _ _⟩
def SdM.againUp (m : SdM) (k : Int) (j : Nat) : List PktM := (List.range j).map fun i => pktG k (m.beg + i) (m.wait.getD i ByteArray.empty)
theorem SdM.againUp_succ (m : SdM) (k : Int) (j : Nat) : m.againUp k (j + 1) = m.againUp k j ++ [pktG k (m.beg + j) (m.wait.getD j ByteArray.empty)] := by simp [SdM.againUp, List.range_succ]
def GvMove (w : World) (g : Nat) (v : Value) (L : List ByteArray) (m : SdM) (k : Int) : Ending → World → Prop := fun e w' => ∃ v', e = .returned (.tuple #[v', .int .i64 0]) ∧ w'.ownsRow w.heap.size 43 3 v' (m.again k).length (cellsPk (m.again k)) ∧ Kept (gvF g v) w w' ∧ PGv w' g v L (m.move k)
set_option maxRecDepth 100000 in
set_option maxHeartbeats 1000000 in
theorem rmove_ok {w : World} {g : Nat} {v : Value} {L : List ByteArray} {m : SdM} {k : Int} (h : PGv w g v L m) (hk : keyOk k = true) :
    Calls Try.prog 13 #[.pointer (some ⟨g, 0, none⟩), .int .i64 k] w (GvMove w g v L m k) := by
  have hc := fun wz => rkey_any k wz
  rw [hk] at hc
  have hb := keyOk_bd hk
  obtain ⟨i0, hi, hz0, hz1, hz2⟩ := info_parts Try.infoPk
  obtain ⟨a, c, rfl, q1, q2, -⟩ := row_shape h.row
  have c0 : w.cell? ⟨g, 0, none⟩ = some (.int .i64 m.key) := h.hd.cell 0
  have f0 := h.hd.free 0
  have hlen := h.len
  have hlw : L.length = m.beg + m.wait.length := hlen
  have hfew : m.nxt ≤ 16777216 := h.ok.few
  have hlt := h.lt
  have hk1 : Kept [g] w (w.setCell ⟨g, 0, none⟩ (.int .i64 k)) := (Kept.refl _ w).setCell (by simp) _
  have hP1 : PGv (w.setCell ⟨g, 0, none⟩ (.int .i64 k)) g (.slice a L.length c) L (m.move k) := ⟨h.hd.setCellG 0 (.int .i64 k), row_kept h.row hk1 (fun x hx e => h.ne (by rw [List.mem_singleton] at e; rw [← e]; exact hx)), h.ne, ⟨hb, h.ok.few, h.ok.small⟩, h.len, h.wait, h.small⟩
  have x2 : (w.setCell ⟨g, 0, none⟩ (.int .i64 k)).cell? ⟨g, 2, none⟩ = some (.int .i64 (m.beg : Int)) := hP1.hd.cell 2
  have hwt : ∀ i, i < m.wait.length → L.getD (m.beg + i) ByteArray.empty = m.wait.getD i ByteArray.empty := fun i _ => by rw [← h.wait, getD_dropG]
  obtain ⟨N, eN⟩ : ∃ N, N = L.length := ⟨_, rfl⟩
  have hNb : N ≤ 16777216 := by omega
  have hNw : N = m.beg + m.wait.length := by omega
  have HP1 := hid hP1
  have HWT := hid hwt
  have HEN := hid eN
  have HLT := hid hlt
  have HNW := hid hNw
  have hbN : m.beg ≤ N := by omega
  have hK1 : Kept (gvF g (.slice a L.length c)) w (w.setCell ⟨g, 0, none⟩ (.int .i64 k)) := (Kept.refl _ w).setCell (by simp [gvF]) _
  have HK1 := hid hK1
  clear h hP1 hlen hlw hfew hlt hk1 hwt eN hNw hK1 hk q1 q2
  go_enter Try.func13, Try.ntmps13
  go_wp2_with (go_at_call 7; refine (hc _).mono ?_; rintro e w' ⟨rfl, rfl⟩)
  clear c0 f0 x2 hc
  go_loopw [6, 7] (fun vo i wr => ∃ j : Nat, m.beg + j ≤ N ∧ i = .int .i64 ((m.beg + j : Nat) : Int) ∧ wr.ownsRow w.heap.size 43 3 vo j (cellsPk (m.againUp k j)) ∧ PGv wr g (.slice a L.length c) L (m.move k) ∧ Kept (gvF g (.slice a L.length c)) w wr) (fun _ i _ => N - (intOf i).toNat)
  case atStart => exact ⟨0, by omega, rfl, ⟨rfl, .inl ⟨rfl, rfl⟩⟩, HP1.out, HK1.out⟩
  case round =>
    obtain ⟨j, hj, rfl, ho, hP, hK⟩ := hrel
    obtain ⟨ao, co, rfl, -, -, -⟩ := row_shape ho
    have d1 : wr.cell? ⟨g, 1, none⟩ = some (.slice a L.length c) := hP.hd.cell 1
    rw [← HEN.out] at d1
    obtain ⟨E, eE⟩ : ∃ E, E = m.beg + j := ⟨_, rfl⟩
    rw [← eE]
    by_cases hlt : E < N
    · have hpk := rpacket_any hP E (by rw [← HEN.out]; exact hlt)
      have hjw : j < m.wait.length := by have := HNW.out; omega
      have epk : pktG (m.move k).key E (L.getD E ByteArray.empty) = pktG k (m.beg + j) (m.wait.getD j ByteArray.empty) := by
        rw [eE, HWT.out j hjw]
        rfl
      rw [epk] at hpk
      have HUP := hid (m.againUp_succ k j)
      obtain ⟨R, eR⟩ : ∃ R, R = pktG k (m.beg + j) (m.wait.getD j ByteArray.empty) := ⟨_, rfl⟩
      rw [← eR] at hpk HUP
      obtain ⟨rx, ry, rz⟩ := R
      dsimp only [PktM.val] at hpk
      have HO := hid ho
      have HP := hid hP
      have HK := hid hK
      have HEE := hid eE
      clear epk eR ho hP hK eE
      go_wp2_with (first
        | (go_at_call 24; refine hpk.mono ?_; rintro e w3 ⟨rfl, hb3⟩; have ho3 := World.ownsRow.alloc (row_kept HO.out (S := []) (Kept.of_below hb3) (by simp)) (.cells #[.int .i64 rx, .string ry, .string rz] 43); have HX := hid (at_newG w3 43 [.int .i64 rx, .string ry, .string rz]))
        | (at_builtin; refine wpList_pushR (W := w3.alloc (.cells #[.int .i64 rx, .string ry, .string rz] 43)) w.heap.size w3.heap.size Try.underlying39 hi hz0 hz1 hz2 rfl (by omega) ho3 rfl _ _ rfl rfl rfl (news := [.int .i64 rx, .string ry, .string rz]) rfl ?_ ?_ ?_ ?_ ?_ ?_))
      · intro q u hq
        rw [HX.out.cell q]
        exact hq
      · intro u hu
        exact cellsPk_one [⟨rx, ry, rz⟩] u (by simpa [cellsPk, PktM.cells] using hu)
      · unfold maxLen; omega
      · omega
      · have := HK.out.size; have := hb3.size; rw [World.size_alloc]; omega
      intro v' w4 ho4 hg4 hb4
      have hK4 : Kept (ownB (.slice ao j co)) w3 w4 := ((Kept.refl _ w3).alloc _).trans (Kept.grownR hg4)
      have hnb : ∀ q ∈ ownB (.slice ao j co), w.heap.size ≤ q := fun q hq => (row_new HO.out q hq).1
      have hP4 := (HP.out.kept (S := []) (Kept.of_below hb3) (by simp)).kept hK4 (fun x hx e => by
        have h1 := hnb x e
        have h2 := HLT.out x hx
        omega)
      obtain ⟨a', c', rfl, -, -, -⟩ := row_shape ho4
      have e1 : cellsPk (m.againUp k j) ++ [.int .i64 rx, .string ry, .string rz] = cellsPk (m.againUp k (j + 1)) := by
        rw [HUP.out, cellsPk_snoc]
        rfl
      rw [e1] at ho4
      have HO4 := hid ho4
      have HP4 := hid hP4
      have HK5 := hid ((HK.out.trans (Kept.of_below hb3)).newG hK4 (fun x hx => .inr (hnb x hx)))
      clear ho3 ho4 hg4 hb4 hP4 hK4
      go_wp2_with fail
      refine ⟨⟨j + 1, by have := HEE.out; omega, ?_, HO4.out, HP4.out, HK5.out⟩, by simp [intOf]; omega⟩
      rw [show m.beg + (j + 1) = E + 1 by have := HEE.out; omega]
      go_num
    · have hjn : j = m.wait.length := by have := HNW.out; omega
      have HO := hid ho
      have HP := hid hP
      have HK := hid hK
      clear ho hP hK
      go_wp2_with fail
      go_ret2
      refine ⟨_, rfl, ?_, HK.out, HP.out⟩
      have h9 := HO.out
      have e9 : m.againUp k j = m.again k := by rw [hjn]; rfl
      rw [e9] at h9
      rw [SdM.again_length, ← hjn]
      exact h9
end Go.Proofs.Ytbmdjfolfmgmmag
namespace Go.Proofs.Ytbmdjfolfmgmmag
open Go.ChangeShapes Go.WideShapes Go.ChangeAt Go.RowKit
/-- The keys that are told, one after the other: all, or as long as they stand one behind the other. -/
def StepsG (M : Nat → Option ByteArray) (b : Bool) : Nat → List Nat → Prop
  | F, [] => if b then (∀ k, F ≤ k → M k = none) else M F = none
  | F, k :: ks => F ≤ k ∧ (M k).isSome = true ∧ (∀ j, F ≤ j → j < k → M j = none) ∧ (b = false → k = F) ∧ StepsG M b (k + 1) ks
def endG : Nat → List Nat → Nat
  | F, [] => F
  | _, k :: ks => endG (k + 1) ks
def textsG (M : Nat → Option ByteArray) (ks : List Nat) : List ByteArray := ks.map fun k => (M k).getD ByteArray.empty
theorem textsG_length (M : Nat → Option ByteArray) (ks : List Nat) : (textsG M ks).length = ks.length := by simp [textsG]
theorem run_steps (M : Nat → Option ByteArray) : ∀ n F, RunG M F n → StepsG M false F (List.range' F n) ∧ endG F (List.range' F n) = F + n
  | 0, F, h => ⟨h.2, rfl⟩
  | n + 1, F, h => by
    have h1 : RunG M (F + 1) n := ⟨fun i hi => by have := h.1 (i + 1) (by omega); rwa [show F + (i + 1) = F + 1 + i by omega] at this, by have := h.2; rwa [show F + (n + 1) = F + 1 + n by omega] at this⟩
    obtain ⟨q1, q2⟩ := run_steps M n (F + 1) h1
    refine ⟨⟨Nat.le_refl _, ?_, fun j a b => by omega, fun _ => rfl, q1⟩, ?_⟩
    · have := h.1 0 (by omega)
      rwa [Nat.add_zero] at this
    · show endG (F + 1) (List.range' (F + 1) n) = _
      rw [q2]
      omega
theorem run_texts (M : Nat → Option ByteArray) (F n : Nat) : textsG M (List.range' F n) = toldG M F n := by
  unfold textsG toldG
  rw [List.range'_eq_map_range, List.map_map]
  rfl
theorem steps_end {M : Nat → Option ByteArray} {b : Bool} (hM : ∀ k, 16777216 ≤ k → M k = none) : ∀ ks F, StepsG M b F ks → F ≤ 16777216 → F ≤ endG F ks ∧ endG F ks ≤ 16777216 ∧ F + ks.length ≤ 16777216
  | [], F, _, hF => ⟨Nat.le_refl _, hF, by simpa using hF⟩
  | k :: ks, F, h, hF => by
    obtain ⟨h1, h2, _, _, h5⟩ := h
    have hk : k < 16777216 := by
      rcases Nat.lt_or_ge k 16777216 with q | q
      · exact q
      · rw [hM k q] at h2; cases h2
    obtain ⟨a, c, e⟩ := steps_end hM ks (k + 1) h5 (by omega)
    refine ⟨?_, c, ?_⟩
    · show F ≤ endG (k + 1) ks
      omega
    · rw [List.length_cons]
      omega
def GcM.cutTo (m : GcM) (e : Nat) : GcM := ⟨m.key, e, cutM m.M e⟩
theorem GcM.Ok.cutTo {m : GcM} (h : m.Ok) {e : Nat} (he : e ≤ 16777216) : (m.cutTo e).Ok := by
  refine ⟨h.key, he, fun k hk => ?_, fun k hk => ?_⟩
  · exact if_pos hk
  · show cutM m.M e k = none
    unfold cutM
    split
    · rfl
    · exact h.top k hk
def cAt (cs : List Nat) (i : Nat) : Nat := cs.getD i 0
structure PGt (w : World) (g : Nat) (vc vd : Value) (cs : List Nat) (dd : List ByteArray) (m : GcM) : Prop where
  hd : At w g 38 [.int .i64 m.key, .int .i64 (m.fst : Int), vc, vd]
  rowc : w.ownsRow 0 3 1 vc cs.length (cs.map fun c => Value.int .i64 ((c : Nat) : Int))
  rowd : w.ownsRow 0 9 1 vd dd.length (dd.map Value.string)
  len : cs.length = dd.length
  nec : g ∉ ownB vc
  ned : g ∉ ownB vd
  nc : ∀ x ∈ ownB vc, x ∉ ownB vd
  look : ∀ k, m.fst ≤ k → ∀ x, m.M k = some x ↔ ∃ i, i < cs.length ∧ cAt cs i = k ∧ dAt dd i = x
  top : ∀ i, i < cs.length → cAt cs i < 16777216
  ok : m.Ok
def gtF (g : Nat) (vc vd : Value) : List Nat := g :: (ownB vc ++ ownB vd)
theorem PGt.kept {w w' : World} {g : Nat} {vc vd : Value} {cs : List Nat} {dd : List ByteArray} {m : GcM} {S : List Nat} (h : PGt w g vc vd cs dd m) (hk : Kept S w w') (hn : ∀ x ∈ gtF g vc vd, x ∉ S) : PGt w' g vc vd cs dd m :=
  ⟨h.hd.kept hk (hn g List.mem_cons_self), row_kept h.rowc hk (fun x hx => hn x (List.mem_cons_of_mem _ (List.mem_append_left _ hx))), row_kept h.rowd hk (fun x hx => hn x (List.mem_cons_of_mem _ (List.mem_append_right _ hx))), h.len, h.nec, h.ned, h.nc, h.look, h.top, h.ok⟩
theorem PGt.lt {w : World} {g : Nat} {vc vd : Value} {cs : List Nat} {dd : List ByteArray} {m : GcM} (h : PGt w g vc vd cs dd m) : ∀ x ∈ gtF g vc vd, x < w.heap.size := fun x hx => by
  rcases List.mem_cons.1 hx with rfl | hx
  · exact h.hd.lt
  · rcases List.mem_append.1 hx with hx | hx
    · exact (row_new h.rowc x hx).2
    · exact (row_new h.rowd x hx).2
theorem row_nats {w : World} {B n c : Nat} {a : Option Addr} {cs : List Nat} (h : w.ownsRow B 3 1 (.slice a n c) cs.length (cs.map fun c => Value.int .i64 ((c : Nat) : Int))) {i : Nat} (hi : i < cs.length) : ∃ g, a = some ⟨g, 0, none⟩ ∧ ∀ i, i < cs.length → w.cell? ⟨g, i, none⟩ = some (.int .i64 ((cAt cs i : Nat) : Int)) := by
  rcases h.2 with ⟨h', h0⟩ | ⟨g, cap, cur, h', _, hg, _, _, _, ht⟩
  · omega
  · simp only [Value.slice.injEq] at h'
    obtain ⟨rfl, _, _⟩ := h'
    refine ⟨g, rfl, fun i hi => ?_⟩
    have hat : cur[i]? = (cs.map fun c => Value.int .i64 ((c : Nat) : Int))[i]? := by
      rw [← ht, List.getElem?_take_of_lt (by omega)]
      simp
    rw [cell_of_row _ _ _ _ _ _ hg, hat]
    simp [cAt, List.getD, hi]
/-- The least count from F on, of the first i: none; or the one at q. -/
def LeastI (cs : List Nat) (F i : Nat) (v : Int) : Prop := (v = -1 ∧ ∀ j, j < i → cAt cs j < F) ∨ ∃ q : Nat, v = (q : Int) ∧ q < i ∧ F ≤ cAt cs q ∧ ∀ j, j < i → F ≤ cAt cs j → cAt cs q ≤ cAt cs j
end Go.Proofs.Ytbmdjfolfmgmmag
