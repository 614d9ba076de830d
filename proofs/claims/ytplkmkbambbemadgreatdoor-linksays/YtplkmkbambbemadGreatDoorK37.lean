import Derived.Test.YtplkmkbambbemadGreatDoorK32
import Derived.Test.YtplkmkbambbemadGreatDoorK15
import Derived.Test.YtplkmkbambbemadGreatDoorK14
namespace Go.Proofs.YtplkmkbambbemadGreatDoor
open Go.ChangeShapes Go.WideShapes Go.ChangeAt Go.RowKit
def ShpCells (w : World) (b o : Nat) (t : Int × Int × Int) : Prop := w.cell? ⟨b, o, none⟩ = some (.int .i64 t.1) ∧ w.cell? ⟨b, o + 1, none⟩ = some (.int .i64 t.2.1) ∧ w.cell? ⟨b, o + 2, none⟩ = some (.int .i64 t.2.2)
def Shps (w : World) (a : Option Addr) (ts : List (Int × Int × Int)) : Prop := ts ≠ [] → ∃ b off, a = some ⟨b, off, none⟩ ∧ ∀ i, i < ts.length → ShpCells w b (off + i * 3) (ts.getD i (0, 0, 0))
theorem Shps.at {w : World} {a : Option Addr} {ts : List (Int × Int × Int)} (h : Shps w a ts) {i : Nat} (hi : i < ts.length) : ∃ b off, a = some ⟨b, off, none⟩ ∧ ∀ i, i < ts.length → ShpCells w b (off + i * 3) (ts.getD i (0, 0, 0)) := h (by rintro rfl; simp at hi)
theorem cell_old {w w' : World} (hb : Below w.heap.size w w') {p : Addr} {v : Value} (h : w.cell? p = some v) : w'.cell? p = some v := (hb.cell (World.block_lt_of_cell? w _ h)).trans h
theorem Shps.below {w w' : World} {a : Option Addr} {ts : List (Int × Int × Int)} (h : Shps w a ts) (hb : Below w.heap.size w w') : Shps w' a ts := by
  intro hne
  obtain ⟨b, off, rfl, hc⟩ := h hne
  refine ⟨b, off, rfl, fun i hi => ?_⟩
  obtain ⟨h1, h2, h3⟩ := hc i hi
  exact ⟨cell_old hb h1, cell_old hb h2, cell_old hb h3⟩
/-- What a build answers, in one form. -/
theorem build_law {Ready : World → Prop} {Ear : World → Addr → List Nat → Setg → Nat → List Int → Prop} (hL : LinkLaws Ready Ear) (s : ByteArray) (S : Setg) (V : Int) (hIn : S.In) (hs : I64k (s.size : Int)) :
    ∃ (m : Nat) (L : List (Int × Int)), L.length = m ∧ (buildErr S s.size V = 0 → L = builtM S s V.toNat) ∧ (buildErr S s.size V ≠ 0 → m = 0) ∧ ∀ wz, Ready wz → Calls Tryz.prog 32 #[.string s, S.val, .int .i64 V] wz fun e w' => ∃ a c, e = .returned (.tuple #[.slice a m c, .int .i64 (buildErr S s.size V)]) ∧ Pts w' a L ∧ Below wz.heap.size wz w' := by
  by_cases h : buildErr S s.size V = 0
  · refine ⟨(builtM S s V.toNat).length, builtM S s V.toNat, rfl, fun _ => rfl, fun h' => absurd h h', fun wz hz => (hL.build s S V wz hz hIn hs).mono fun e w' h' => ?_⟩
    obtain ⟨u, rfl, hb, h1, -⟩ := h'
    have ho := h1 h
    obtain ⟨a, c, rfl, -, -⟩ := ho.shape
    exact ⟨a, c, rfl, ho.pts, hb⟩
  · refine ⟨0, [], rfl, fun h' => absurd h' h, fun _ => rfl, fun wz hz => (hL.build s S V wz hz hIn hs).mono fun e w' h' => ?_⟩
    obtain ⟨u, rfl, hb, -, h1⟩ := h'
    obtain ⟨a, c, rfl⟩ := h1 h
    exact ⟨a, c, rfl, fun h => absurd rfl h, hb⟩
theorem built_law (s : ByteArray) (S : Setg) (V : Int) (hv : verOk V = true) (hS : SetOk S s.size) (m : Nat) (hm : (builtM S s V.toNat).length = m) (wz : World) : Calls Tryz.prog 34 #[.string s, S.val, .int .i64 V] wz fun e w' => ∃ a c, e = .returned (.slice a m c) ∧ Pts w' a (builtM S s V.toNat) ∧ Below wz.heap.size wz w' := by
  have hV : 0 ≤ V ∧ V ≤ 3 := of_decide_eq_true hv
  have h := built_any S s V.toNat wz (by omega) hS
  rw [show ((V.toNat : Nat) : Int) = V by omega] at h
  refine h.mono fun e w' h' => ?_
  obtain ⟨u, rfl, ho, hb⟩ := h'
  obtain ⟨a, c, rfl, -, -⟩ := ho.shape
  rw [hm]
  exact ⟨a, c, rfl, ho.pts, hb⟩
theorem builtM_few {S : Setg} {s : ByteArray} {B : Int} (hS : SetOk S B) (v : Nat) : (builtM S s v).length ≤ 4096 := by
  have e : (builtM S s v).length = S.count.toNat / S.order.toNat := by unfold builtM; simp [sentM]
  rw [e]
  have := hS.count
  exact Nat.le_trans (Nat.div_le_self _ _) (by omega)
theorem build_cases (S : Setg) (B V : Int) : (setErr S B ≠ 0 ∧ buildErr S B V = setErr S B) ∨ (setErr S B = 0 ∧ verOk V = false ∧ buildErr S B V = 1) ∨ (setErr S B = 0 ∧ verOk V = true ∧ buildErr S B V = 0) := by
  unfold buildErr
  by_cases h : setErr S B = 0
  · rw [if_pos h]
    cases hv : verOk V with
    | true => exact .inr (.inr ⟨h, rfl, rfl⟩)
    | false => exact .inr (.inl ⟨h, rfl, rfl⟩)
  · rw [if_neg h]; exact .inl ⟨h, rfl⟩
set_option maxRecDepth 100000 in
set_option maxHeartbeats 8000000 in
theorem lsays_bad {Ready : World → Prop} {Ear : World → Addr → List Nat → Setg → Nat → List Int → Prop} (hL : LinkLaws Ready Ear) (s : ByteArray) (S : Setg) (bytes : Int) (ts : List (Int × Int × Int)) (at_ : Option Addr) (nt ct : Nat) (xv : Value) (w : World)
    (hR : Ready w) (hIn : S.In) (hb : I64k bytes) (hs : I64k (s.size : Int)) (hT : Shps w at_ ts) (ht : ts.length = nt) (htm : nt ≤ 9223372036854775807) (hE : setErr S bytes ≠ 0) :
    Calls Tryz.prog 4 #[.string s, S.val, .int .i64 bytes, .slice at_ nt ct, xv] w fun e w' => e = .returned (.bool true) ∧ Below w.heap.size w w' := by
  have hmix : Tryz.prog.follows .mixedOrders = true := by kernel_rfl
  have hck := fun wz => hL.check S bytes wz hIn hb
  have hse := fun wz => rsettings_any S bytes wz
  have hse2 := fun wz => rsettings_any S (s.size : Int) wz
  have HBD := hid (fun (V : Int) => build_law hL s S V hIn hs)
  have HSE : Hid (∀ wz, Below (w.alloc (.cells #[.int .i64 S.code, .int .i64 S.size, .int .i64 S.order, .int .i64 S.seed, .int .i64 S.count] 55)).heap.size (w.alloc (.cells #[.int .i64 S.code, .int .i64 S.size, .int .i64 S.order, .int .i64 S.seed, .int .i64 S.count] 55)) wz → wz.cell? ⟨w.heap.size, 0, none⟩ = some (.int .i64 S.code) ∧ wz.cell? ⟨w.heap.size, 1, none⟩ = some (.int .i64 S.size) ∧ wz.cell? ⟨w.heap.size, 2, none⟩ = some (.int .i64 S.order) ∧ wz.cell? ⟨w.heap.size, 3, none⟩ = some (.int .i64 S.seed) ∧ wz.cell? ⟨w.heap.size, 4, none⟩ = some (.int .i64 S.count)) := fun wz h => set_cells h
  have hb0 : Below w.heap.size w (w.alloc (.cells #[.int .i64 S.code, .int .i64 S.size, .int .i64 S.order, .int .i64 S.seed, .int .i64 S.count] 55)) := (Below.refl _ w).alloc (Nat.le_refl _) _
  have hl0 : w.heap.size < (w.alloc (.cells #[.int .i64 S.code, .int .i64 S.size, .int .i64 S.order, .int .i64 S.seed, .int .i64 S.count] 55)).heap.size := by simp
  have hR0 := hL.ready hR hb0
  have hnb := fun wz => hL.newBad S bytes wz hIn hb hE
  obtain ⟨E, eE⟩ : ∃ E, E = setErr S bytes := ⟨_, rfl⟩
  rw [← eE] at hE hck hse hnb
  have q0 : (E != 0) = true := by simpa using hE
  have q1 : (E == 0) = false := by simpa using hE
  have q2 : (E != E) = false := by simp
  clear eE hE
  have HT := hid ht
  have hs2 := hs.2
  unfold Setg.val
  go_enter Tryz.func4, Tryz.ntmps4
  go_wp2_with fail
  generalize w.alloc (.cells #[.int .i64 S.code, .int .i64 S.size, .int .i64 S.order, .int .i64 S.seed, .int .i64 S.count] 55) = w0 at *
  have HCC := HSE
  have hrdy : ∀ wz, Below w0.heap.size w0 wz → Ready wz := fun wz h => hL.ready hR0 h
  have hT0 := hT.below hb0
  refine wp_mono (region_each (Q := fun e a' w' => e = .normal ∧ ∃ σ, a' = ({ tmps := ((setAll _ (tbS [26, 27, 28, 29, 30, 31] 6 σ)).set 32 (.bool ((E : Int) != E))).toArray, defers := [] } : Act) ∧ Below w0.heap.size w0 w') 7 6 [26, 27, 28, 29, 30, 31]
    [[6], [2], [26, 27], [6], [2], [29, 30]] [2, 2, 5, 5, 5, 6]
    [eqR S.val, eqR (.int .i64 bytes), eqR (.int .i64 E), eqR S.val, eqR (.int .i64 bytes), eqR (.int .i64 E)] w0 hmix rfl (by decide) rfl (by decide) (by kernel_rfl) (by kernel_rfl) (by kernel_rfl) (by kernel_rfl) (by kernel_rfl) (by kernel_rfl)
    (by intro R hR; simp only [List.mem_cons, List.not_mem_nil, or_false] at hR; rcases hR with rfl | rfl | rfl | rfl | rfl | rfl <;> (first | (exact eqR_mono _)))
    (fun i' hi' σ ac wc hbc hp hr Q K hK => by
      have hor : i' = 0 ∨ i' = 1 ∨ i' = 2 ∨ i' = 3 ∨ i' = 4 ∨ i' = 5 := by omega
      rcases hor with rfl | rfl | rfl | rfl | rfl | rfl
      · have e6 := hr 6 (by decide)
        obtain ⟨c0, c1, c2, c3, c4⟩ := HCC.out wc (hbc)
        exact op_value rfl rfl (run_loadSetL (S := S) wc rfl e6 c0 c1 c2 c3 c4) (hK _ wc (grownL wc) rfl)
      · have e2 := hr 2 (by decide)
        exact op_value rfl rfl (run_moveQ wc rfl e2) (hK _ wc (grownL wc) rfl)
      · have e26 : ac.eval (.tmp 26) = S.val := (hr 26 (by decide)).trans (hp 0 (by decide) (by kernel_rfl))
        have e27 : ac.eval (.tmp 27) = (.int .i64 bytes) := (hr 27 (by decide)).trans (hp 1 (by decide) (by kernel_rfl))
        refine op_callNL rfl rfl rfl (enters_of Tryz.func28 (by kernel_rfl) rfl) (map2L e26 e27) (hck wc) fun e w' hr' => ?_
        obtain ⟨rfl, hb'⟩ := hr'
        exact ⟨_, rfl, hK _ w' (grown_of_below hb') rfl⟩
      · have e6 := hr 6 (by decide)
        obtain ⟨c0, c1, c2, c3, c4⟩ := HCC.out wc (hbc)
        exact op_value rfl rfl (run_loadSetL (S := S) wc rfl e6 c0 c1 c2 c3 c4) (hK _ wc (grownL wc) rfl)
      · have e2 := hr 2 (by decide)
        exact op_value rfl rfl (run_moveQ wc rfl e2) (hK _ wc (grownL wc) rfl)
      · have e29 : ac.eval (.tmp 29) = S.val := (hr 29 (by decide)).trans (hp 3 (by decide) (by kernel_rfl))
        have e30 : ac.eval (.tmp 30) = (.int .i64 bytes) := (hr 30 (by decide)).trans (hp 4 (by decide) (by kernel_rfl))
        refine op_callNL rfl rfl rfl (enters_of Tryz.func29 (by kernel_rfl) rfl) (map2L e29 e30) (hse wc) fun e w' hr' => ?_
        obtain ⟨rfl, hb'⟩ := hr'
        exact ⟨_, rfl, hK _ w' (grown_of_below hb') rfl⟩)
    (fun σ wc hbc hp => by
      refine op_value rfl rfl (run_neqE wc rfl ((eval_setAll (t := tbS [26, 27, 28, 29, 30, 31] 6 σ) 28 (show ([26, 27, 28, 29, 30, 31] : List Nat).Nodup by decide) (by kernel_rfl)).trans (hp 2 (by decide))) ((eval_setAll (t := tbS [26, 27, 28, 29, 30, 31] 6 σ) 31 (show ([26, 27, 28, 29, 30, 31] : List Nat).Nodup by decide) (by kernel_rfl)).trans (hp 5 (by decide)))) ⟨rfl, σ, put_list _ _ _, hbc⟩)) ?_
  rintro e a' w1 ⟨rfl, σ, rfl, hb1⟩
  rw [show tbS [26, 27, 28, 29, 30, 31] 6 σ = [(26, σ 0), (27, σ 1), (28, σ 2), (29, σ 3), (30, σ 4), (31, σ 5)] from rfl]
  dsimp only [setAll, List.set, List.append_nil, List.cons_append, List.nil_append]
  obtain ⟨d0, d1, d2, d3, d4⟩ := HCC.out w1 hb1
  go_wp2_with (first
    | (go_at_call 30; refine (hnb _).mono ?_; rintro e w2 ⟨rfl, hb2⟩; have hB2 := hb1.trans (hb2.mono hb1.size); obtain ⟨d0, d1, d2, d3, d4⟩ := HCC.out w2 hB2)
    | (go_at_call 29; refine (hse _).mono ?_; rintro e w3 ⟨rfl, hb3⟩; have hB3 := hB2.trans (hb3.mono hB2.size))
    | fail)
  go_loopw [15] (fun i wr => ∃ k : Nat, k ≤ nt ∧ i = .int .i64 k ∧ Below w0.heap.size w0 wr) (fun i _ => nt - (intOf i).toNat)
  case atStart => exact ⟨0, Nat.zero_le _, rfl, hB3⟩
  case round =>
    obtain ⟨k, hk, rfl, hB⟩ := hrel
    by_cases hlt : k < nt
    · obtain ⟨bt, ot, rfl, hcs⟩ := hT0.at (i := k) (by rw [HT.out]; exact hlt)
      obtain ⟨gv, -, -⟩ := hcs k (by rw [HT.out]; exact hlt)
      obtain ⟨V, eV⟩ : ∃ V, V = (ts.getD k (0, 0, 0)).1 := ⟨_, rfl⟩
      rw [← eV] at gv
      have gv := cell_old hB gv
      obtain ⟨m, L, hLm, hLg, hLb, hbd⟩ := HBD.out V
      have hcse := build_cases S s.size V
      obtain ⟨X, eX⟩ : ∃ X, X = setErr S s.size := ⟨_, rfl⟩
      obtain ⟨G, eG⟩ : ∃ G, G = buildErr S s.size V := ⟨_, rfl⟩
      rw [← eX] at hcse hse2
      rw [← eG] at hcse hbd hLg hLb
      have HX := hid eX
      clear eV eG eX hcs
      go_wp2_with fail
      refine wp_mono (region_each (Q := fun e a' w' => e = .normal ∧ ∃ σ : Nat → Value, a' = ({ tmps := ((setAll _ (tbS [64, 65, 66, 67, 68, 69, 70, 71, 63, 72, 73, 16] 12 σ)).set 17 (.int .i64 G)).toArray, defers := [] } : Act) ∧ pntR m L (σ 11) w' ∧ Below wr.heap.size wr w') 13 12 [64, 65, 66, 67, 68, 69, 70, 71, 63, 72, 73, 16]
        [[0], [6], [3], [15], [66, 67], [68], [69], [64, 65, 70], [71], [63], [63], [72]] [7, 7, 4, 4, 5, 6, 7, 8, 9, 11, 12, 12]
        [eqR (.string s), eqR S.val, eqR (.slice (some ⟨bt, ot, none⟩) nt ct), eqR (.int .i64 (k : Int)), eqR (.pointer (some ⟨bt, ot + k * 3, none⟩)), eqR (.pointer (some ⟨bt, ot + k * 3, none⟩)), eqR (.int .i64 V), ptuR m L G, ptuR m L G, pntR m L, eqR (.int .i64 G), pntR m L] wr hmix rfl (by decide) rfl (by decide) (by kernel_rfl) (by kernel_rfl) (by kernel_rfl) (by kernel_rfl) (by kernel_rfl) (by kernel_rfl)
        (by intro R hR; simp only [List.mem_cons, List.not_mem_nil, or_false] at hR; rcases hR with rfl | rfl | rfl | rfl | rfl | rfl | rfl | rfl | rfl | rfl | rfl | rfl <;> (first | (exact eqR_mono _) | (exact ptuR_mono _ _ _) | (exact pntR_mono _ _)))
        (fun i' hi' σ ac wc hbc hp hr Q K hK => by
          have hor : i' = 0 ∨ i' = 1 ∨ i' = 2 ∨ i' = 3 ∨ i' = 4 ∨ i' = 5 ∨ i' = 6 ∨ i' = 7 ∨ i' = 8 ∨ i' = 9 ∨ i' = 10 ∨ i' = 11 := by omega
          rcases hor with rfl | rfl | rfl | rfl | rfl | rfl | rfl | rfl | rfl | rfl | rfl | rfl
          · have e0 := hr 0 (by decide)
            exact op_value rfl rfl (run_moveQ wc rfl e0) (hK _ wc (grownL wc) rfl)
          · have e6 := hr 6 (by decide)
            obtain ⟨c0, c1, c2, c3, c4⟩ := HCC.out wc (hB.trans (hbc.mono hB.size))
            exact op_value rfl rfl (run_loadSetL (S := S) wc rfl e6 c0 c1 c2 c3 c4) (hK _ wc (grownL wc) rfl)
          · have e3 := hr 3 (by decide)
            exact op_value rfl rfl (run_moveQ wc rfl e3) (hK _ wc (grownL wc) rfl)
          · have e15 := hr 15 (by decide)
            exact op_value rfl rfl (run_moveQ wc rfl e15) (hK _ wc (grownL wc) rfl)
          · have e66 : ac.eval (.tmp 66) = (.slice (some ⟨bt, ot, none⟩) nt ct) := (hr 66 (by decide)).trans (hp 2 (by decide) (by kernel_rfl))
            have e67 : ac.eval (.tmp 67) = (.int .i64 (k : Int)) := (hr 67 (by decide)).trans (hp 3 (by decide) (by kernel_rfl))
            exact op_value rfl rfl (run_idxT wc rfl e66 e67 hlt) (hK _ wc (grownL wc) rfl)
          · have e68 : ac.eval (.tmp 68) = (.pointer (some ⟨bt, ot + k * 3, none⟩)) := (hr 68 (by decide)).trans (hp 4 (by decide) (by kernel_rfl))
            exact op_value rfl rfl (run_fldT0 wc rfl e68) (hK _ wc (grownL wc) rfl)
          · have e69 : ac.eval (.tmp 69) = (.pointer (some ⟨bt, ot + k * 3, none⟩)) := (hr 69 (by decide)).trans (hp 5 (by decide) (by kernel_rfl))
            exact op_value rfl rfl (run_loadI wc rfl e69 (cell_old hbc gv)) (hK _ wc (grownL wc) rfl)
          · have e64 : ac.eval (.tmp 64) = (.string s) := (hr 64 (by decide)).trans (hp 0 (by decide) (by kernel_rfl))
            have e65 : ac.eval (.tmp 65) = S.val := (hr 65 (by decide)).trans (hp 1 (by decide) (by kernel_rfl))
            have e70 : ac.eval (.tmp 70) = (.int .i64 V) := (hr 70 (by decide)).trans (hp 6 (by decide) (by kernel_rfl))
            refine op_callNL rfl rfl rfl (enters_of Tryz.func32 (by kernel_rfl) rfl) (map3L e64 e65 e70) (hbd wc (hrdy wc (hB.trans (hbc.mono hB.size)))) fun e w' hr' => ?_
            obtain ⟨a1, c1, rfl, hp1, hb'⟩ := hr'
            exact ⟨_, rfl, hK _ w' (grown_of_below hb') (show ptuR m L G _ _ from ⟨a1, c1, rfl, hp1⟩)⟩
          · obtain ⟨a71, c71, q71, p71⟩ := hp 7 (by decide) (by kernel_rfl)
            have e71 := (hr 71 (by decide)).trans q71
            exact op_value rfl rfl (run_moveQ wc rfl e71) (hK _ wc (grownL wc) (show ptuR m L G _ _ from ⟨a71, c71, rfl, p71⟩))
          · obtain ⟨a63, c63, q63, p63⟩ := hp 8 (by decide) (by kernel_rfl)
            have e63 := (hr 63 (by decide)).trans q63
            exact op_value rfl rfl (run_extractL wc rfl e63 rfl) (hK _ wc (grownL wc) (show pntR m L _ _ from ⟨a63, c63, rfl, p63⟩))
          · obtain ⟨a63, c63, q63, p63⟩ := hp 8 (by decide) (by kernel_rfl)
            have e63 := (hr 63 (by decide)).trans q63
            exact op_value rfl rfl (run_extractL wc rfl e63 rfl) (hK _ wc (grownL wc) rfl)
          · obtain ⟨a72, c72, q72, p72⟩ := hp 9 (by decide) (by kernel_rfl)
            have e72 := (hr 72 (by decide)).trans q72
            exact op_value rfl rfl (run_assignL wc rfl e72) (hK _ wc (grownL wc) (show pntR m L _ _ from ⟨a72, c72, rfl, p72⟩)))
        (fun σ wc hbc hp => by
          refine op_value rfl rfl (run_assignL wc rfl ((eval_setAll (t := tbS [64, 65, 66, 67, 68, 69, 70, 71, 63, 72, 73, 16] 12 σ) 73 (show ([64, 65, 66, 67, 68, 69, 70, 71, 63, 72, 73, 16] : List Nat).Nodup by decide) (by kernel_rfl)).trans (hp 10 (by decide)))) ⟨rfl, σ, put_list _ _ _, hp 11 (by decide), hbc⟩)) ?_
      rintro e a' w5 ⟨rfl, σ, rfl, ⟨a5, c5, q5, hp5⟩, hb5⟩
      rw [show tbS [64, 65, 66, 67, 68, 69, 70, 71, 63, 72, 73, 16] 12 σ = [(64, σ 0), (65, σ 1), (66, σ 2), (67, σ 3), (68, σ 4), (69, σ 5), (70, σ 6), (71, σ 7), (63, σ 8), (72, σ 9), (73, σ 10), (16, σ 11)] from rfl, q5]
      dsimp only [setAll, List.set, List.append_nil, List.cons_append, List.nil_append]
      have hB5 := hB.trans (hb5.mono hB.size)
      have gv5 := cell_old hb5 gv
      obtain ⟨d0, d1, d2, d3, d4⟩ := HCC.out w5 hB5
      have hver := fun wz => rversion_any V wz
      rcases hcse with ⟨hX, hG⟩ | ⟨hX, hv, hG⟩ | ⟨hX, hv, hG⟩
      · obtain rfl : m = 0 := hLb (by rw [hG]; exact hX)
        subst hG
        have x1 : (G == 0) = false := by simpa using hX
        have x2 : (G != 0) = true := by simpa using hX
        have x3 : (G != G) = false := by simp
        clear hX hLb hLg hLm hbd
        go_wp2_with (first
          | (go_at_call 29; refine (hse2 _).mono ?_; rintro e w6 ⟨rfl, hb6⟩; have hB6 := hB5.trans (hb6.mono hB5.size))
          | fail)
        refine ⟨⟨k + 1, by omega, by go_num, hB6⟩, by simp [intOf]; omega⟩
      · subst hX
        subst hG
        obtain rfl : m = 0 := hLb (by decide)
        rw [hv] at hver
        clear hLb hLg hLm hbd hv
        go_wp2_with (first
          | (go_at_call 29; refine (hse2 _).mono ?_; rintro e w6 ⟨rfl, hb6⟩; have hB6 := hB5.trans (hb6.mono hB5.size); have gv6 := cell_old hb6 gv5)
          | (go_at_call 33; refine (hver _).mono ?_; rintro e w9 ⟨rfl, rfl⟩)
          | fail)
        refine ⟨⟨k + 1, by omega, by go_num, hB6⟩, by simp [intOf]; omega⟩
      · have hL2 := hLg hG
        have hSk := setOk_of (HX.out.symm.trans hX)
        have hbl := built_law s S V hv hSk m (by rw [← hL2]; exact hLm)
        rw [← hL2] at hbl
        have hm4 : m ≤ 4096 := by rw [← hLm, hL2]; exact builtM_few hSk _
        have hsm := fun (wz : World) (a b : Option Addr) (ca cb : Nat) (ha : Pts wz a L) (hb : Pts wz b L) => same_points L L a b ca cb wz ha hb (by rw [hLm]; unfold maxLen; omega) (by rw [hLm]; unfold maxLen; omega)
        rw [hLm, show decide (L = L) = true by simp] at hsm
        subst hX
        subst hG
        rw [hv] at hver
        clear hLb hLg hbd hv hL2
        go_wp2_with (first
          | (go_at_call 29; refine (hse2 _).mono ?_; rintro e w6 ⟨rfl, hb6⟩; have hB6 := hB5.trans (hb6.mono hB5.size); have gv6 := cell_old hb6 gv5; obtain ⟨f0, f1, f2, f3, f4⟩ := HCC.out w6 hB6; have hp6 := hp5.below hb6)
          | (go_at_call 33; refine (hver _).mono ?_; rintro e w9 ⟨rfl, rfl⟩)
          | fail)
        refine wp_mono (region_each (Q := fun e a' w' => e = .normal ∧ ∃ σ : Nat → Value, a' = ({ tmps := ((setAll _ (tbS [103, 104, 105, 106, 107, 108, 109, 110] 8 σ)).set 19 (σ 7)).toArray, defers := [] } : Act) ∧ pntR m L (σ 7) w' ∧ Below w6.heap.size w6 w') 9 8 [103, 104, 105, 106, 107, 108, 109, 110]
          [[0], [6], [3], [15], [105, 106], [107], [108], [103, 104, 109]] [7, 7, 4, 4, 5, 6, 7, 8]
          [eqR (.string s), eqR S.val, eqR (.slice (some ⟨bt, ot, none⟩) nt ct), eqR (.int .i64 (k : Int)), eqR (.pointer (some ⟨bt, ot + k * 3, none⟩)), eqR (.pointer (some ⟨bt, ot + k * 3, none⟩)), eqR (.int .i64 V), pntR m L] w6 hmix rfl (by decide) rfl (by decide) (by kernel_rfl) (by kernel_rfl) (by kernel_rfl) (by kernel_rfl) (by kernel_rfl) (by kernel_rfl)
          (by intro R hR; simp only [List.mem_cons, List.not_mem_nil, or_false] at hR; rcases hR with rfl | rfl | rfl | rfl | rfl | rfl | rfl | rfl <;> (first | (exact eqR_mono _) | (exact pntR_mono _ _)))
          (fun i' hi' σ ac wc hbc hp hr Q K hK => by
            have hor : i' = 0 ∨ i' = 1 ∨ i' = 2 ∨ i' = 3 ∨ i' = 4 ∨ i' = 5 ∨ i' = 6 ∨ i' = 7 := by omega
            rcases hor with rfl | rfl | rfl | rfl | rfl | rfl | rfl | rfl
            · have e0 := hr 0 (by decide)
              exact op_value rfl rfl (run_moveQ wc rfl e0) (hK _ wc (grownL wc) rfl)
            · have e6 := hr 6 (by decide)
              obtain ⟨c0, c1, c2, c3, c4⟩ := HCC.out wc (hB6.trans (hbc.mono hB6.size))
              exact op_value rfl rfl (run_loadSetL (S := S) wc rfl e6 c0 c1 c2 c3 c4) (hK _ wc (grownL wc) rfl)
            · have e3 := hr 3 (by decide)
              exact op_value rfl rfl (run_moveQ wc rfl e3) (hK _ wc (grownL wc) rfl)
            · have e15 := hr 15 (by decide)
              exact op_value rfl rfl (run_moveQ wc rfl e15) (hK _ wc (grownL wc) rfl)
            · have e105 : ac.eval (.tmp 105) = (.slice (some ⟨bt, ot, none⟩) nt ct) := (hr 105 (by decide)).trans (hp 2 (by decide) (by kernel_rfl))
              have e106 : ac.eval (.tmp 106) = (.int .i64 (k : Int)) := (hr 106 (by decide)).trans (hp 3 (by decide) (by kernel_rfl))
              exact op_value rfl rfl (run_idxT wc rfl e105 e106 hlt) (hK _ wc (grownL wc) rfl)
            · have e107 : ac.eval (.tmp 107) = (.pointer (some ⟨bt, ot + k * 3, none⟩)) := (hr 107 (by decide)).trans (hp 4 (by decide) (by kernel_rfl))
              exact op_value rfl rfl (run_fldT0 wc rfl e107) (hK _ wc (grownL wc) rfl)
            · have e108 : ac.eval (.tmp 108) = (.pointer (some ⟨bt, ot + k * 3, none⟩)) := (hr 108 (by decide)).trans (hp 5 (by decide) (by kernel_rfl))
              exact op_value rfl rfl (run_loadI wc rfl e108 (cell_old hbc gv6)) (hK _ wc (grownL wc) rfl)
            · have e103 : ac.eval (.tmp 103) = (.string s) := (hr 103 (by decide)).trans (hp 0 (by decide) (by kernel_rfl))
              have e104 : ac.eval (.tmp 104) = S.val := (hr 104 (by decide)).trans (hp 1 (by decide) (by kernel_rfl))
              have e109 : ac.eval (.tmp 109) = (.int .i64 V) := (hr 109 (by decide)).trans (hp 6 (by decide) (by kernel_rfl))
              refine op_callNL rfl rfl rfl (enters_of Tryz.func34 (by kernel_rfl) rfl) (map3L e103 e104 e109) (hbl wc) fun e w' hr' => ?_
              obtain ⟨a1, c1, rfl, hp1, hb'⟩ := hr'
              exact ⟨_, rfl, hK _ w' (grown_of_below hb') (show pntR m L _ _ from ⟨a1, c1, rfl, hp1⟩)⟩)
          (fun σ wc hbc hp => by
            refine op_value rfl rfl (run_assignL wc rfl (eval_setAll (t := tbS [103, 104, 105, 106, 107, 108, 109, 110] 8 σ) 110 (show ([103, 104, 105, 106, 107, 108, 109, 110] : List Nat).Nodup by decide) (by kernel_rfl))) ⟨rfl, σ, put_list _ _ _, hp 7 (by decide), hbc⟩)) ?_
        rintro e a' w7 ⟨rfl, σ7, rfl, ⟨a7, c7, q7, hp7⟩, hb7⟩
        rw [show tbS [103, 104, 105, 106, 107, 108, 109, 110] 8 σ7 = [(103, σ7 0), (104, σ7 1), (105, σ7 2), (106, σ7 3), (107, σ7 4), (108, σ7 5), (109, σ7 6), (110, σ7 7)] from rfl, q7]
        dsimp only [setAll, List.set, List.append_nil, List.cons_append, List.nil_append]
        have hB7 := hB6.trans (hb7.mono hB6.size)
        have gv7 := cell_old hb7 gv6
        go_wp2_with (first
          | (go_at_call 35; refine (hsm _ _ _ _ _ (hp6.below hb7) hp7).mono ?_; rintro e w8 ⟨rfl, hb8⟩; have hB6 := hB7.trans (hb8.mono hB7.size))
          | fail)
        refine ⟨⟨k + 1, by omega, by go_num, hB6⟩, by simp [intOf]; omega⟩
    · have e : k = nt := by omega
      subst e
      go_wp2_with fail
      go_ret
      exact ⟨rfl, hb0.trans (hB.mono (Nat.le_of_lt hl0))⟩
end Go.Proofs.YtplkmkbambbemadGreatDoor
