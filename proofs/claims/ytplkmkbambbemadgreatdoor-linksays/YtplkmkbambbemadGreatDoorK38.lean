import Derived.Test.YtplkmkbambbemadGreatDoorK37
import Derived.Test.YtplkmkbambbemadGreatDoorK04
import Derived.Deep.SlicePairs
import Derived.Lib.SmallJoins
namespace Go.Proofs.YtplkmkbambbemadGreatDoor
open Go.ChangeShapes Go.WideShapes Go.ChangeAt Go.RowKit
theorem codedN_nat2 {S : Setg} {B : Nat} (hS : SetOk S B) : ∃ N : Nat, codedN S B = N ∧ 1 ≤ N ∧ N ≤ 4096 := by
  refine ⟨(codedN S B).toNat, ?_⟩
  have hf := hS.few
  unfold codedN
  rcases hS.code with h | h
  · rw [if_pos h]; omega
  · rw [if_neg (by omega)]
    have hp := (hS.size1 h).1
    unfold powI at hp
    have := of_decide_eq_true hp
    omega
/-- An ear of the document stays as it was where another one's block changes. -/
theorem REar.off {w w' : World} {g b : Nat} {S : Setg} {bytes : Int} {sums : List Int} {a : Option Addr} {n c : Nat} (h : REar w g S bytes sums) (hk : Kept [b] w w') (hs : 1 ≤ sums.length) (hc : w.cell? ⟨b, 0, none⟩ = some (.slice a n c)) : REar w' g S bytes sums := by
  obtain ⟨gs, d, hb, hr, hlt, hne, h1, h2⟩ := h
  have g1 : g ∉ [b] := by
    intro hm
    obtain rfl : g = b := by simpa using hm
    rw [cell_of_row _ _ _ _ _ _ hb] at hc
    simp [earCells] at hc
  have g2 : gs ∉ [b] := by
    intro hm
    obtain rfl : gs = b := by simpa using hm
    obtain ⟨b2, o2, e, hcs⟩ := hr.at (i := 0) (by omega)
    cases e
    have := hcs 0 (by omega)
    rw [hc] at this
    cases this
  exact ⟨gs, d, (hk.block g (Array.getElem?_eq_some_iff.1 hb).1 g1).trans hb, hk.rd hr (fun g' o e => by cases e; exact g2), Nat.lt_of_lt_of_le hlt hk.size, hne, h1, h2⟩
theorem Pts.off {w w' : World} {a : Option Addr} {ps : List (Int × Int)} {L : List Nat} (h : Pts w a ps) (hk : Kept L w w') (hs : ∀ g o, a = some ⟨g, o, none⟩ → ps ≠ [] → g ∉ L) : Pts w' a ps := by
  intro hne
  obtain ⟨b, off, rfl, hc⟩ := h hne
  refine ⟨b, off, rfl, fun i hi => ?_⟩
  obtain ⟨h1, h2⟩ := hc i hi
  exact ⟨hk.cellO h1 (hs b off rfl hne), hk.cellO h2 (hs b off rfl hne)⟩
theorem own_far {w : World} {B n c : Nat} {a : Option Addr} {ps : List (Int × Int)} {T : TypeId} (h : OwnT T w B (.slice a n c) ps) : ∀ g o, a = some ⟨g, o, none⟩ → B ≤ g := fun g o e => by subst e; exact h.blocks g rfl
theorem ownT_pts {w : World} {B n c : Nat} {a : Option Addr} {ps : List (Int × Int)} (h : OwnT 29 w B (.slice a n c) ps) : Pts w a ps := OwnP.pts h
set_option maxRecDepth 100000 in
set_option maxHeartbeats 8000000 in
theorem lsays_good {Ready : World → Prop} {Ear : World → Addr → List Nat → Setg → Nat → List Int → Prop} (hL : LinkLaws Ready Ear) (s : ByteArray) (S : Setg) (B : Nat) (ts : List (Int × Int × Int)) (at_ : Option Addr) (nt ct : Nat) (xs : List (Int × Int)) (ax : Option Addr) (nx cx : Nat) (w : World)
    (hR : Ready w) (hIn : S.In) (hs : I64k (s.size : Int)) (hT : Shps w at_ ts) (ht : ts.length = nt) (htm : nt ≤ 9223372036854775807) (hX : Pts w ax xs) (hxl : xs.length = nx) (hx9 : nx ≤ 8796093022208) (hE : setErr S B = 0) :
    Calls Tryz.prog 4 #[.string s, S.val, .int .i64 (B : Int), .slice at_ nt ct, .slice ax nx cx] w fun e w' => e = .returned (.bool true) ∧ Below w.heap.size w w' := by
  have hb : I64k (B : Int) := by have := (setOk_of hE).few; exact ⟨by omega, by omega⟩
  have hmix : Tryz.prog.follows .mixedOrders = true := by kernel_rfl
  have hck := fun wz => hL.check S (B : Int) wz hIn hb
  have hse := fun wz => rsettings_any S (B : Int) wz
  have hse2 := fun wz => rsettings_any S (s.size : Int) wz
  have HBD := hid (fun (V : Int) => build_law hL s S V hIn hs)
  have HSE : Hid (∀ wz, Below (w.alloc (.cells #[.int .i64 S.code, .int .i64 S.size, .int .i64 S.order, .int .i64 S.seed, .int .i64 S.count] 55)).heap.size (w.alloc (.cells #[.int .i64 S.code, .int .i64 S.size, .int .i64 S.order, .int .i64 S.seed, .int .i64 S.count] 55)) wz → wz.cell? ⟨w.heap.size, 0, none⟩ = some (.int .i64 S.code) ∧ wz.cell? ⟨w.heap.size, 1, none⟩ = some (.int .i64 S.size) ∧ wz.cell? ⟨w.heap.size, 2, none⟩ = some (.int .i64 S.order) ∧ wz.cell? ⟨w.heap.size, 3, none⟩ = some (.int .i64 S.seed) ∧ wz.cell? ⟨w.heap.size, 4, none⟩ = some (.int .i64 S.count)) := fun wz h => set_cells h
  have hb0 : Below w.heap.size w (w.alloc (.cells #[.int .i64 S.code, .int .i64 S.size, .int .i64 S.order, .int .i64 S.seed, .int .i64 S.count] 55)) := (Below.refl _ w).alloc (Nat.le_refl _) _
  have hl0 : w.heap.size < (w.alloc (.cells #[.int .i64 S.code, .int .i64 S.size, .int .i64 S.order, .int .i64 S.seed, .int .i64 S.count] 55)).heap.size := by simp
  have hR0 := hL.ready hR hb0
  have hS0 := setOk_of hE
  rw [hE] at hck hse
  have hnw := fun (wz : World) (hz : Ready wz) => hL.new S B wz hz hIn hE
  have hne := fun wz => rnewear_any S (B : Int) wz hS0
  obtain ⟨N, eN, hN1, hN4⟩ := codedN_nat2 hS0
  have hz0 : ((List.replicate N (0 : Int)).length : Int) = codedN S B := by rw [eN, List.length_replicate]
  have hzs : softOk (List.replicate N (0 : Int)) = true := by
    unfold softOk
    refine List.all_eq_true.2 fun x hx => ?_
    rw [List.eq_of_mem_replicate hx]
    decide
  rw [eN, Int.toNat_natCast] at hnw hne
  clear hE
  have HT := hid ht
  have hs2 := hs.2
  unfold Setg.val
  go_enter Tryz.func4, Tryz.ntmps4
  go_wp2_with fail
  generalize w.alloc (.cells #[.int .i64 S.code, .int .i64 S.size, .int .i64 S.order, .int .i64 S.seed, .int .i64 S.count] 55) = w0 at *
  have HCC := HSE
  have hrdy : ∀ wz, Below w0.heap.size w0 wz → Ready wz := fun wz h => hL.ready hR0 h
  have hT0 := hT.below hb0
  have hX0 := hX.below hb0
  refine wp_mono (region_each (Q := fun e a' w' => e = .normal ∧ ∃ σ, a' = ({ tmps := ((setAll _ (tbS [26, 27, 28, 29, 30, 31] 6 σ)).set 32 (.bool ((0 : Int) != 0))).toArray, defers := [] } : Act) ∧ Below w0.heap.size w0 w') 7 6 [26, 27, 28, 29, 30, 31]
    [[6], [2], [26, 27], [6], [2], [29, 30]] [2, 2, 5, 5, 5, 6]
    [eqR S.val, eqR (.int .i64 (B : Int)), eqR (.int .i64 0), eqR S.val, eqR (.int .i64 (B : Int)), eqR (.int .i64 0)] w0 hmix rfl (by decide) rfl (by decide) (by kernel_rfl) (by kernel_rfl) (by kernel_rfl) (by kernel_rfl) (by kernel_rfl) (by kernel_rfl)
    (by intro R hR; simp only [List.mem_cons, List.not_mem_nil, or_false] at hR; rcases hR with rfl | rfl | rfl | rfl | rfl | rfl <;> (first | (exact eqR_mono _)))
    (fun i' hi' σ ac wc hbc hp hr Q K hK => by
      have hor : i' = 0 ∨ i' = 1 ∨ i' = 2 ∨ i' = 3 ∨ i' = 4 ∨ i' = 5 := by omega
      rcases hor with rfl | rfl | rfl | rfl | rfl | rfl
      · have e6 := hr 6 (by decide)
        obtain ⟨c0, c1, c2, c3, c4⟩ := HCC.out wc (hbc)
        exact op_value rfl rfl (run_loadSetL (S := S) wc rfl e6 c0 c1 c2 c3 c4) (hK _ wc (grownL wc) rfl)
      · have e2 := hr 2 (by decide)
        exact op_value rfl rfl (run_moveQ wc rfl e2) (hK _ wc (grownL wc) rfl)
      · have e26 : ac.eval (.tmp 26) = S.val := (hr 26 (by decide)).trans (hp 0 (by decide) (by kernel_rfl))
        have e27 : ac.eval (.tmp 27) = (.int .i64 (B : Int)) := (hr 27 (by decide)).trans (hp 1 (by decide) (by kernel_rfl))
        refine op_callNL rfl rfl rfl (enters_of Tryz.func28 (by kernel_rfl) rfl) (map2L e26 e27) (hck wc) fun e w' hr' => ?_
        obtain ⟨rfl, hb'⟩ := hr'
        exact ⟨_, rfl, hK _ w' (grown_of_below hb') rfl⟩
      · have e6 := hr 6 (by decide)
        obtain ⟨c0, c1, c2, c3, c4⟩ := HCC.out wc (hbc)
        exact op_value rfl rfl (run_loadSetL (S := S) wc rfl e6 c0 c1 c2 c3 c4) (hK _ wc (grownL wc) rfl)
      · have e2 := hr 2 (by decide)
        exact op_value rfl rfl (run_moveQ wc rfl e2) (hK _ wc (grownL wc) rfl)
      · have e29 : ac.eval (.tmp 29) = S.val := (hr 29 (by decide)).trans (hp 3 (by decide) (by kernel_rfl))
        have e30 : ac.eval (.tmp 30) = (.int .i64 (B : Int)) := (hr 30 (by decide)).trans (hp 4 (by decide) (by kernel_rfl))
        refine op_callNL rfl rfl rfl (enters_of Tryz.func29 (by kernel_rfl) rfl) (map2L e29 e30) (hse wc) fun e w' hr' => ?_
        obtain ⟨rfl, hb'⟩ := hr'
        exact ⟨_, rfl, hK _ w' (grown_of_below hb') rfl⟩)
    (fun σ wc hbc hp => by
      refine op_value rfl rfl (run_neqE wc rfl ((eval_setAll (t := tbS [26, 27, 28, 29, 30, 31] 6 σ) 28 (show ([26, 27, 28, 29, 30, 31] : List Nat).Nodup by decide) (by kernel_rfl)).trans (hp 2 (by decide))) ((eval_setAll (t := tbS [26, 27, 28, 29, 30, 31] 6 σ) 31 (show ([26, 27, 28, 29, 30, 31] : List Nat).Nodup by decide) (by kernel_rfl)).trans (hp 5 (by decide)))) ⟨rfl, σ, put_list _ _ _, hbc⟩)) ?_
  rintro e a' w1 ⟨rfl, σ, rfl, hb1⟩
  rw [show tbS [26, 27, 28, 29, 30, 31] 6 σ = [(26, σ 0), (27, σ 1), (28, σ 2), (29, σ 3), (30, σ 4), (31, σ 5)] from rfl]
  dsimp only [setAll, List.set, List.append_nil, List.cons_append, List.nil_append]
  obtain ⟨d0, d1, d2, d3, d4⟩ := HCC.out w1 hb1
  go_wp2_with (first
    | (go_at_call 30; refine (hnw _ (hrdy _ hb1)).mono ?_; rintro e w2 ⟨p, F, rfl, hE2, hF2, hb2⟩; have hB2 := hb1.trans (hb2.mono hb1.size); obtain ⟨d0, d1, d2, d3, d4⟩ := HCC.out w2 hB2)
    | (go_at_call 29; refine (hse _).mono ?_; rintro e w3 ⟨rfl, hb3⟩; have hB3 := hB2.trans (hb3.mono hB2.size); obtain ⟨d0, d1, d2, d3, d4⟩ := HCC.out w3 hB3)
    | (go_at_call 31; refine (hne _).mono ?_; rintro e w4 ⟨gr, rfl, hgr, hRE, hb4⟩; have hB4 := hB3.trans (hb4.mono hB3.size))
    | fail)
  have hE4 := hL.kept hE2 (Kept.of_below (S := []) (hb3.trans (hb4.mono hb3.size))) (fun _ _ => by simp)
  have hF4 : ∀ x ∈ F, w0.heap.size ≤ x := fun x hx => Nat.le_trans hb1.size (hF2 x hx)
  have hg4 : gr ∉ F := fun h => by have := hL.lt hE2 gr h; have := hb3.size; omega
  have hg0 : w0.heap.size ≤ gr := Nat.le_trans hB3.size hgr
  obtain ⟨hpb, b, -, -, -, rfl, -⟩ := hL.first hE2
  clear hE2 hF2
  go_loopw [15] (fun i wr => ∃ k F sm, k ≤ nt ∧ i = .int .i64 (k : Nat) ∧ Ear wr ⟨b, 0, none⟩ F S B sm ∧ REar wr gr S B sm ∧ (sm.length : Int) = codedN S B ∧ softOk sm = true ∧ (∀ x ∈ F, w0.heap.size ≤ x) ∧ gr ∉ F ∧ Below w0.heap.size w0 wr) (fun i _ => nt - (intOf i).toNat)
  case atStart => exact ⟨0, F, _, Nat.zero_le _, rfl, hE4, hRE, hz0, hzs, hF4, hg4, hB4⟩
  case round =>
    clear hE4 hRE hF4 hg4
    obtain ⟨k, F, sm, hk, rfl, hEr, hRE, hsl, hso, hF0, hgF, hB⟩ := hrel
    by_cases hlt : k < nt
    · obtain ⟨bt, ot, rfl, hcs⟩ := hT0.at (i := k) (by rw [HT.out]; exact hlt)
      obtain ⟨gv, gf, gc⟩ := hcs k (by rw [HT.out]; exact hlt)
      obtain ⟨V, eV⟩ : ∃ V, V = (ts.getD k (0, 0, 0)).1 := ⟨_, rfl⟩
      obtain ⟨Fq, eF⟩ : ∃ Fq, Fq = (ts.getD k (0, 0, 0)).2.1 := ⟨_, rfl⟩
      obtain ⟨Cq, eC⟩ : ∃ Cq, Cq = (ts.getD k (0, 0, 0)).2.2 := ⟨_, rfl⟩
      rw [← eV] at gv
      rw [← eF] at gf
      rw [← eC] at gc
      have gv0 := gv
      have gv := cell_old hB gv
      have gf := cell_old hB gf
      have gc := cell_old hB gc
      obtain ⟨m, L, hLm, hLg, hLb, hbd⟩ := HBD.out V
      have hcse := build_cases S s.size V
      obtain ⟨X, eX⟩ : ∃ X, X = setErr S s.size := ⟨_, rfl⟩
      obtain ⟨G, eG⟩ : ∃ G, G = buildErr S s.size V := ⟨_, rfl⟩
      rw [← eX] at hcse hse2
      rw [← eG] at hcse hbd hLg hLb
      have HX := hid eX
      clear eV eF eC eG eX hcs
      go_wp2_with fail
      refine wp_mono (region_each (Q := fun e a' w' => e = .normal ∧ ∃ σ : Nat → Value, a' = ({ tmps := ((setAll _ (tbS [64, 65, 66, 67, 68, 69, 70, 71, 63, 72, 73, 16] 12 σ)).set 17 (.int .i64 G)).toArray, defers := [] } : Act) ∧ pntR m L (σ 11) w' ∧ Below wr.heap.size wr w') 13 12 [64, 65, 66, 67, 68, 69, 70, 71, 63, 72, 73, 16]
        [[0], [6], [3], [15], [66, 67], [68], [69], [64, 65, 70], [71], [63], [63], [72]] [7, 7, 4, 4, 5, 6, 7, 8, 9, 11, 12, 12]
        [eqR (.string s), eqR S.val, eqR (.slice (some ⟨bt, ot, none⟩) nt ct), eqR (.int .i64 (k : Int)), eqR (.pointer (some ⟨bt, ot + k * 3, none⟩)), eqR (.pointer (some ⟨bt, ot + k * 3, none⟩)), eqR (.int .i64 V), ptuR m L G, ptuR m L G, pntR m L, eqR (.int .i64 G), pntR m L] wr hmix rfl (by decide) rfl (by decide) (by kernel_rfl) (by kernel_rfl) (by kernel_rfl) (by kernel_rfl) (by kernel_rfl) (by kernel_rfl)
        (by intro R hR; simp only [List.mem_cons, List.not_mem_nil, or_false] at hR; rcases hR with rfl | rfl | rfl | rfl | rfl | rfl | rfl | rfl | rfl | rfl | rfl | rfl <;> (first | (exact eqR_mono _) | (exact ptuR_mono _ _ _) | (exact pntR_mono _ _)))
        (fun i' hi' σ ac wc hbc hp hr Q K hK => by
          have hor : i' = 0 ∨ i' = 1 ∨ i' = 2 ∨ i' = 3 ∨ i' = 4 ∨ i' = 5 ∨ i' = 6 ∨ i' = 7 ∨ i' = 8 ∨ i' = 9 ∨ i' = 10 ∨ i' = 11 := by omega
          rcases hor with rfl | rfl | rfl | rfl | rfl | rfl | rfl | rfl | rfl | rfl | rfl | rfl
          · have e0 := hr 0 (by decide)
            exact op_value rfl rfl (run_moveQ wc rfl e0) (hK _ wc (grownL wc) rfl)
          · have e6 := hr 6 (by decide)
            obtain ⟨c0, c1, c2, c3, c4⟩ := HCC.out wc (hB.trans (hbc.mono hB.size))
            exact op_value rfl rfl (run_loadSetL (S := S) wc rfl e6 c0 c1 c2 c3 c4) (hK _ wc (grownL wc) rfl)
          · have e3 := hr 3 (by decide)
            exact op_value rfl rfl (run_moveQ wc rfl e3) (hK _ wc (grownL wc) rfl)
          · have e15 := hr 15 (by decide)
            exact op_value rfl rfl (run_moveQ wc rfl e15) (hK _ wc (grownL wc) rfl)
          · have e66 : ac.eval (.tmp 66) = (.slice (some ⟨bt, ot, none⟩) nt ct) := (hr 66 (by decide)).trans (hp 2 (by decide) (by kernel_rfl))
            have e67 : ac.eval (.tmp 67) = (.int .i64 (k : Int)) := (hr 67 (by decide)).trans (hp 3 (by decide) (by kernel_rfl))
            exact op_value rfl rfl (run_idxT wc rfl e66 e67 hlt) (hK _ wc (grownL wc) rfl)
          · have e68 : ac.eval (.tmp 68) = (.pointer (some ⟨bt, ot + k * 3, none⟩)) := (hr 68 (by decide)).trans (hp 4 (by decide) (by kernel_rfl))
            exact op_value rfl rfl (run_fldT0 wc rfl e68) (hK _ wc (grownL wc) rfl)
          · have e69 : ac.eval (.tmp 69) = (.pointer (some ⟨bt, ot + k * 3, none⟩)) := (hr 69 (by decide)).trans (hp 5 (by decide) (by kernel_rfl))
            exact op_value rfl rfl (run_loadI wc rfl e69 (cell_old hbc gv)) (hK _ wc (grownL wc) rfl)
          · have e64 : ac.eval (.tmp 64) = (.string s) := (hr 64 (by decide)).trans (hp 0 (by decide) (by kernel_rfl))
            have e65 : ac.eval (.tmp 65) = S.val := (hr 65 (by decide)).trans (hp 1 (by decide) (by kernel_rfl))
            have e70 : ac.eval (.tmp 70) = (.int .i64 V) := (hr 70 (by decide)).trans (hp 6 (by decide) (by kernel_rfl))
            refine op_callNL rfl rfl rfl (enters_of Tryz.func32 (by kernel_rfl) rfl) (map3L e64 e65 e70) (hbd wc (hrdy wc (hB.trans (hbc.mono hB.size)))) fun e w' hr' => ?_
            obtain ⟨a1, c1, rfl, hp1, hb'⟩ := hr'
            exact ⟨_, rfl, hK _ w' (grown_of_below hb') (show ptuR m L G _ _ from ⟨a1, c1, rfl, hp1⟩)⟩
          · obtain ⟨a71, c71, q71, p71⟩ := hp 7 (by decide) (by kernel_rfl)
            have e71 := (hr 71 (by decide)).trans q71
            exact op_value rfl rfl (run_moveQ wc rfl e71) (hK _ wc (grownL wc) (show ptuR m L G _ _ from ⟨a71, c71, rfl, p71⟩))
          · obtain ⟨a63, c63, q63, p63⟩ := hp 8 (by decide) (by kernel_rfl)
            have e63 := (hr 63 (by decide)).trans q63
            exact op_value rfl rfl (run_extractL wc rfl e63 rfl) (hK _ wc (grownL wc) (show pntR m L _ _ from ⟨a63, c63, rfl, p63⟩))
          · obtain ⟨a63, c63, q63, p63⟩ := hp 8 (by decide) (by kernel_rfl)
            have e63 := (hr 63 (by decide)).trans q63
            exact op_value rfl rfl (run_extractL wc rfl e63 rfl) (hK _ wc (grownL wc) rfl)
          · obtain ⟨a72, c72, q72, p72⟩ := hp 9 (by decide) (by kernel_rfl)
            have e72 := (hr 72 (by decide)).trans q72
            exact op_value rfl rfl (run_assignL wc rfl e72) (hK _ wc (grownL wc) (show pntR m L _ _ from ⟨a72, c72, rfl, p72⟩)))
        (fun σ wc hbc hp => by
          refine op_value rfl rfl (run_assignL wc rfl ((eval_setAll (t := tbS [64, 65, 66, 67, 68, 69, 70, 71, 63, 72, 73, 16] 12 σ) 73 (show ([64, 65, 66, 67, 68, 69, 70, 71, 63, 72, 73, 16] : List Nat).Nodup by decide) (by kernel_rfl)).trans (hp 10 (by decide)))) ⟨rfl, σ, put_list _ _ _, hp 11 (by decide), hbc⟩)) ?_
      rintro e a' w5 ⟨rfl, σ, rfl, ⟨a5, c5, q5, hp5⟩, hb5⟩
      rw [show tbS [64, 65, 66, 67, 68, 69, 70, 71, 63, 72, 73, 16] 12 σ = [(64, σ 0), (65, σ 1), (66, σ 2), (67, σ 3), (68, σ 4), (69, σ 5), (70, σ 6), (71, σ 7), (63, σ 8), (72, σ 9), (73, σ 10), (16, σ 11)] from rfl, q5]
      dsimp only [setAll, List.set, List.append_nil, List.cons_append, List.nil_append]
      have hB5 := hB.trans (hb5.mono hB.size)
      have gv5 := cell_old hb5 gv
      obtain ⟨d0, d1, d2, d3, d4⟩ := HCC.out w5 hB5
      have hver := fun wz => rversion_any V wz
      rcases hcse with ⟨hX, hG⟩ | ⟨hX, hv, hG⟩ | ⟨hX, hv, hG⟩
      · obtain rfl : m = 0 := hLb (by rw [hG]; exact hX)
        subst hG
        have x1 : (G == 0) = false := by simpa using hX
        have x2 : (G != 0) = true := by simpa using hX
        have x3 : (G != G) = false := by simp
        clear hX hLb hLg hLm hbd
        go_wp2_with (first
          | (go_at_call 29; refine (hse2 _).mono ?_; rintro e w6 ⟨rfl, hb6⟩; have hB6 := hB5.trans (hb6.mono hB5.size))
          | fail)
        have hr6 := hb5.trans (hb6.mono hb5.size)
        refine ⟨⟨k + 1, F, sm, by omega, by go_num, hL.kept hEr (Kept.of_below (S := []) hr6) (fun _ _ => by simp), hRE.below hr6, hsl, hso, hF0, hgF, hB6⟩, by simp [intOf]; omega⟩
      · subst hX
        subst hG
        obtain rfl : m = 0 := hLb (by decide)
        rw [hv] at hver
        clear hLb hLg hLm hbd hv
        go_wp2_with (first
          | (go_at_call 29; refine (hse2 _).mono ?_; rintro e w6 ⟨rfl, hb6⟩; have hB6 := hB5.trans (hb6.mono hB5.size); have gv6 := cell_old hb6 gv5)
          | (go_at_call 33; refine (hver _).mono ?_; rintro e w9 ⟨rfl, rfl⟩)
          | fail)
        have hr6 := hb5.trans (hb6.mono hb5.size)
        refine ⟨⟨k + 1, F, sm, by omega, by go_num, hL.kept hEr (Kept.of_below (S := []) hr6) (fun _ _ => by simp), hRE.below hr6, hsl, hso, hF0, hgF, hB6⟩, by simp [intOf]; omega⟩
      · have hL2 := hLg hG
        have hSk := setOk_of (HX.out.symm.trans hX)
        have hbl := built_law s S V hv hSk m (by rw [← hL2]; exact hLm)
        rw [← hL2] at hbl
        have hm4 : m ≤ 4096 := by rw [← hLm, hL2]; exact builtM_few hSk _
        have hsm := fun (wz : World) (a b : Option Addr) (ca cb : Nat) (ha : Pts wz a L) (hb : Pts wz b L) => same_points L L a b ca cb wz ha hb (by rw [hLm]; unfold maxLen; omega) (by rw [hLm]; unfold maxLen; omega)
        rw [hLm, show decide (L = L) = true by simp] at hsm
        subst hX
        subst hG
        rw [hv] at hver
        clear hLb hLg hbd hv hL2
        go_wp2_with (first
          | (go_at_call 29; refine (hse2 _).mono ?_; rintro e w6 ⟨rfl, hb6⟩; have hB6 := hB5.trans (hb6.mono hB5.size); have gv6 := cell_old hb6 gv5; obtain ⟨f0, f1, f2, f3, f4⟩ := HCC.out w6 hB6; have hp6 := hp5.below hb6)
          | (go_at_call 33; refine (hver _).mono ?_; rintro e w9 ⟨rfl, rfl⟩)
          | fail)
        refine wp_mono (region_each (Q := fun e a' w' => e = .normal ∧ ∃ σ : Nat → Value, a' = ({ tmps := ((setAll _ (tbS [103, 104, 105, 106, 107, 108, 109, 110] 8 σ)).set 19 (σ 7)).toArray, defers := [] } : Act) ∧ pntR m L (σ 7) w' ∧ Below w6.heap.size w6 w') 9 8 [103, 104, 105, 106, 107, 108, 109, 110]
          [[0], [6], [3], [15], [105, 106], [107], [108], [103, 104, 109]] [7, 7, 4, 4, 5, 6, 7, 8]
          [eqR (.string s), eqR S.val, eqR (.slice (some ⟨bt, ot, none⟩) nt ct), eqR (.int .i64 (k : Int)), eqR (.pointer (some ⟨bt, ot + k * 3, none⟩)), eqR (.pointer (some ⟨bt, ot + k * 3, none⟩)), eqR (.int .i64 V), pntR m L] w6 hmix rfl (by decide) rfl (by decide) (by kernel_rfl) (by kernel_rfl) (by kernel_rfl) (by kernel_rfl) (by kernel_rfl) (by kernel_rfl)
          (by intro R hR; simp only [List.mem_cons, List.not_mem_nil, or_false] at hR; rcases hR with rfl | rfl | rfl | rfl | rfl | rfl | rfl | rfl <;> (first | (exact eqR_mono _) | (exact pntR_mono _ _)))
          (fun i' hi' σ ac wc hbc hp hr Q K hK => by
            have hor : i' = 0 ∨ i' = 1 ∨ i' = 2 ∨ i' = 3 ∨ i' = 4 ∨ i' = 5 ∨ i' = 6 ∨ i' = 7 := by omega
            rcases hor with rfl | rfl | rfl | rfl | rfl | rfl | rfl | rfl
            · have e0 := hr 0 (by decide)
              exact op_value rfl rfl (run_moveQ wc rfl e0) (hK _ wc (grownL wc) rfl)
            · have e6 := hr 6 (by decide)
              obtain ⟨c0, c1, c2, c3, c4⟩ := HCC.out wc (hB6.trans (hbc.mono hB6.size))
              exact op_value rfl rfl (run_loadSetL (S := S) wc rfl e6 c0 c1 c2 c3 c4) (hK _ wc (grownL wc) rfl)
            · have e3 := hr 3 (by decide)
              exact op_value rfl rfl (run_moveQ wc rfl e3) (hK _ wc (grownL wc) rfl)
            · have e15 := hr 15 (by decide)
              exact op_value rfl rfl (run_moveQ wc rfl e15) (hK _ wc (grownL wc) rfl)
            · have e105 : ac.eval (.tmp 105) = (.slice (some ⟨bt, ot, none⟩) nt ct) := (hr 105 (by decide)).trans (hp 2 (by decide) (by kernel_rfl))
              have e106 : ac.eval (.tmp 106) = (.int .i64 (k : Int)) := (hr 106 (by decide)).trans (hp 3 (by decide) (by kernel_rfl))
              exact op_value rfl rfl (run_idxT wc rfl e105 e106 hlt) (hK _ wc (grownL wc) rfl)
            · have e107 : ac.eval (.tmp 107) = (.pointer (some ⟨bt, ot + k * 3, none⟩)) := (hr 107 (by decide)).trans (hp 4 (by decide) (by kernel_rfl))
              exact op_value rfl rfl (run_fldT0 wc rfl e107) (hK _ wc (grownL wc) rfl)
            · have e108 : ac.eval (.tmp 108) = (.pointer (some ⟨bt, ot + k * 3, none⟩)) := (hr 108 (by decide)).trans (hp 5 (by decide) (by kernel_rfl))
              exact op_value rfl rfl (run_loadI wc rfl e108 (cell_old hbc gv6)) (hK _ wc (grownL wc) rfl)
            · have e103 : ac.eval (.tmp 103) = (.string s) := (hr 103 (by decide)).trans (hp 0 (by decide) (by kernel_rfl))
              have e104 : ac.eval (.tmp 104) = S.val := (hr 104 (by decide)).trans (hp 1 (by decide) (by kernel_rfl))
              have e109 : ac.eval (.tmp 109) = (.int .i64 V) := (hr 109 (by decide)).trans (hp 6 (by decide) (by kernel_rfl))
              refine op_callNL rfl rfl rfl (enters_of Tryz.func34 (by kernel_rfl) rfl) (map3L e103 e104 e109) (hbl wc) fun e w' hr' => ?_
              obtain ⟨a1, c1, rfl, hp1, hb'⟩ := hr'
              exact ⟨_, rfl, hK _ w' (grown_of_below hb') (show pntR m L _ _ from ⟨a1, c1, rfl, hp1⟩)⟩)
          (fun σ wc hbc hp => by
            refine op_value rfl rfl (run_assignL wc rfl (eval_setAll (t := tbS [103, 104, 105, 106, 107, 108, 109, 110] 8 σ) 110 (show ([103, 104, 105, 106, 107, 108, 109, 110] : List Nat).Nodup by decide) (by kernel_rfl))) ⟨rfl, σ, put_list _ _ _, hp 7 (by decide), hbc⟩)) ?_
        rintro e a' w7 ⟨rfl, σ7, rfl, ⟨a7, c7, q7, hp7⟩, hb7⟩
        rw [show tbS [103, 104, 105, 106, 107, 108, 109, 110] 8 σ7 = [(103, σ7 0), (104, σ7 1), (105, σ7 2), (106, σ7 3), (107, σ7 4), (108, σ7 5), (109, σ7 6), (110, σ7 7)] from rfl, q7]
        dsimp only [setAll, List.set, List.append_nil, List.cons_append, List.nil_append]
        have hB7 := hB6.trans (hb7.mono hB6.size)
        have gv7 := cell_old hb7 gv6
        have hm9 : m ≤ 8796093022208 := by omega
        have hsN : 1 ≤ sm.length := by omega
        by_cases k1 : k + 1 = nt
        · have x5 : ((k : Int) == (nt : Int) - 1) = true := by simp; omega
          clear k1
          by_cases k2 : 0 < nx
          · have x6 : decide ((0 : Int) < (nx : Int)) = true := by simpa using k2
            go_wp2_with (first
              | (go_at_call 35; refine (hsm _ _ _ _ _ (hp6.below hb7) hp7).mono ?_; rintro e w8 ⟨rfl, hb8⟩; have hB8 := hB7.trans (hb8.mono hB7.size); have hr8 := hb5.trans ((hb6.trans ((hb7.trans (hb8.mono hb7.size)).mono hb6.size)).mono hb5.size); have gv8 := cell_old hb8 gv7; have gf8 := cell_old hr8 gf; have gc8 := cell_old hr8 gc)
              | (go_at_call 36; refine (turned_big xs V Fq Cq _ nx _ _ (hX0.below hB8) hxl hx9).mono ?_; rintro e w9 ⟨v9, rfl, ho9, hb9⟩; obtain ⟨T, eT⟩ : ∃ T, T = turnTo Fq Cq xs nx := ⟨_, rfl⟩; have hTl : T.length = nx := (by rw [eT, turnTo_length]); rw [← eT] at ho9; obtain ⟨a9, c9, rfl, -, -⟩ := OwnT.shape ho9; rw [hTl] at ho9 ⊢; have HT9 := hid hTl; clear eT hTl; have hr9 := hr8.trans (hb9.mono hr8.size); have hB9 := hB8.trans (hb9.mono hB8.size); have hE9 := hL.kept hEr (Kept.of_below (S := []) hr9) (fun _ _ => by simp); have gv9 := cell_old hb9 gv8; have hRE9 := hRE.below hr9; have hP9 := ownT_pts ho9; have hfar : ∀ g o, a9 = some ⟨g, o, none⟩ → T ≠ [] → g ∉ F := (fun g o e _ hm => by have h1 := own_far ho9 g o e; have h2 := hL.lt hEr g hm; have h3 := hr8.size; omega); have htk := hL.take T a9 nx c9 V (hrdy _ hB9) hE9 hS0 hsl hso hP9 hfar HT9.out hx9; have hrt := fun wz h1 h2 => rtake_any2 S B sm gr T V a9 nx c9 wz hS0 hsl hso h1 h2 HT9.out hx9; obtain ⟨hbF, b2, a2, n2, c2, e2, hcb⟩ := hL.first hE9; cases e2; obtain ⟨tt, ett⟩ : ∃ tt, tt = earSays S B sm T V := ⟨_, rfl⟩; rw [← ett] at htk hrt; clear ett; obtain ⟨da, bo, er⟩ := tt; unfold Told.val at htk hrt; dsimp only at htk hrt hbF; have x8 : (bo != bo) = false := (by simp); have x9 : (er != er) = false := (by simp))
              | (go_at_call 37; refine htk.mono ?_; rintro e w10 ⟨rfl, F', hE10, hF10, hk10⟩; have hB10 := hB9.trans (hk10.below hB9.size (fun x hx => by obtain rfl : x = b := (by simpa using hx); exact hF0 _ hbF)); have gv10 := cell_old hB10 gv0)
              | (go_at_call 38; refine (hrt _ (hRE9.off hk10 (by omega) hcb) (hP9.off hk10 (fun g o e hne => by have h1 := hfar g o e hne; intro h2; obtain rfl : g = b := (by simpa using h2); exact h1 hbF))).mono ?_; rintro e w11 ⟨rfl, hRE11, hk11⟩)
              | fail)
            have hF' : ∀ x ∈ F', w0.heap.size ≤ x := fun x hx => by
              rcases hF10 x hx with h | h
              · exact hF0 x h
              · exact Nat.le_trans hB9.size h
            have hg' : gr ∉ F' := fun hx => by
              rcases hF10 gr hx with h | h
              · exact hgF h
              · have := hRE9.lt; omega
            refine ⟨⟨k + 1, F', earNext S sm T V, by omega, by go_num, hL.kept hE10 hk11 (fun x hx h => hg' (by obtain rfl : x = gr := (by simpa using h); exact hx)), hRE11, by rw [earNext_length]; exact hsl, earNext_soft hso, hF', hg', ?_⟩, by simp [intOf]; omega⟩
            exact hB10.trans (hk11.below hB10.size (fun x hx => by obtain rfl : x = gr := (by simpa using hx); exact hg0))
          · have x6 : decide ((0 : Int) < (nx : Int)) = false := by simpa using k2
            go_wp2_with (first
              | (go_at_call 35; refine (hsm _ _ _ _ _ (hp6.below hb7) hp7).mono ?_; rintro e w8 ⟨rfl, hb8⟩; have hB8 := hB7.trans (hb8.mono hB7.size); have hr8 := hb5.trans ((hb6.trans ((hb7.trans (hb8.mono hb7.size)).mono hb6.size)).mono hb5.size); have gv8 := cell_old hb8 gv7; have gf8 := cell_old hr8 gf; have gc8 := cell_old hr8 gc)
              | (go_at_call 36; refine (turned_big L V Fq Cq _ m _ _ (hp7.below hb8) hLm hm9).mono ?_; rintro e w9 ⟨v9, rfl, ho9, hb9⟩; obtain ⟨T, eT⟩ : ∃ T, T = turnTo Fq Cq L m := ⟨_, rfl⟩; have hTl : T.length = m := (by rw [eT, turnTo_length]); rw [← eT] at ho9; obtain ⟨a9, c9, rfl, -, -⟩ := OwnT.shape ho9; rw [hTl] at ho9 ⊢; have HT9 := hid hTl; clear eT hTl; have hr9 := hr8.trans (hb9.mono hr8.size); have hB9 := hB8.trans (hb9.mono hB8.size); have hE9 := hL.kept hEr (Kept.of_below (S := []) hr9) (fun _ _ => by simp); have gv9 := cell_old hb9 gv8; have hRE9 := hRE.below hr9; have hP9 := ownT_pts ho9; have hfar : ∀ g o, a9 = some ⟨g, o, none⟩ → T ≠ [] → g ∉ F := (fun g o e _ hm => by have h1 := own_far ho9 g o e; have h2 := hL.lt hEr g hm; have h3 := hr8.size; omega); have htk := hL.take T a9 m c9 V (hrdy _ hB9) hE9 hS0 hsl hso hP9 hfar HT9.out hm9; have hrt := fun wz h1 h2 => rtake_any2 S B sm gr T V a9 m c9 wz hS0 hsl hso h1 h2 HT9.out hm9; obtain ⟨hbF, b2, a2, n2, c2, e2, hcb⟩ := hL.first hE9; cases e2; obtain ⟨tt, ett⟩ : ∃ tt, tt = earSays S B sm T V := ⟨_, rfl⟩; rw [← ett] at htk hrt; clear ett; obtain ⟨da, bo, er⟩ := tt; unfold Told.val at htk hrt; dsimp only at htk hrt hbF; have x8 : (bo != bo) = false := (by simp); have x9 : (er != er) = false := (by simp))
              | (go_at_call 37; refine htk.mono ?_; rintro e w10 ⟨rfl, F', hE10, hF10, hk10⟩; have hB10 := hB9.trans (hk10.below hB9.size (fun x hx => by obtain rfl : x = b := (by simpa using hx); exact hF0 _ hbF)); have gv10 := cell_old hB10 gv0)
              | (go_at_call 38; refine (hrt _ (hRE9.off hk10 (by omega) hcb) (hP9.off hk10 (fun g o e hne => by have h1 := hfar g o e hne; intro h2; obtain rfl : g = b := (by simpa using h2); exact h1 hbF))).mono ?_; rintro e w11 ⟨rfl, hRE11, hk11⟩)
              | fail)
            have hF' : ∀ x ∈ F', w0.heap.size ≤ x := fun x hx => by
              rcases hF10 x hx with h | h
              · exact hF0 x h
              · exact Nat.le_trans hB9.size h
            have hg' : gr ∉ F' := fun hx => by
              rcases hF10 gr hx with h | h
              · exact hgF h
              · have := hRE9.lt; omega
            refine ⟨⟨k + 1, F', earNext S sm T V, by omega, by go_num, hL.kept hE10 hk11 (fun x hx h => hg' (by obtain rfl : x = gr := (by simpa using h); exact hx)), hRE11, by rw [earNext_length]; exact hsl, earNext_soft hso, hF', hg', ?_⟩, by simp [intOf]; omega⟩
            exact hB10.trans (hk11.below hB10.size (fun x hx => by obtain rfl : x = gr := (by simpa using hx); exact hg0))
        · have x5 : ((k : Int) == (nt : Int) - 1) = false := by simp; omega
          clear k1
          go_wp2_with (first
            | (go_at_call 35; refine (hsm _ _ _ _ _ (hp6.below hb7) hp7).mono ?_; rintro e w8 ⟨rfl, hb8⟩; have hB8 := hB7.trans (hb8.mono hB7.size); have hr8 := hb5.trans ((hb6.trans ((hb7.trans (hb8.mono hb7.size)).mono hb6.size)).mono hb5.size); have gv8 := cell_old hb8 gv7; have gf8 := cell_old hr8 gf; have gc8 := cell_old hr8 gc)
            | (go_at_call 36; refine (turned_big L V Fq Cq _ m _ _ (hp7.below hb8) hLm hm9).mono ?_; rintro e w9 ⟨v9, rfl, ho9, hb9⟩; obtain ⟨T, eT⟩ : ∃ T, T = turnTo Fq Cq L m := ⟨_, rfl⟩; have hTl : T.length = m := (by rw [eT, turnTo_length]); rw [← eT] at ho9; obtain ⟨a9, c9, rfl, -, -⟩ := OwnT.shape ho9; rw [hTl] at ho9 ⊢; have HT9 := hid hTl; clear eT hTl; have hr9 := hr8.trans (hb9.mono hr8.size); have hB9 := hB8.trans (hb9.mono hB8.size); have hE9 := hL.kept hEr (Kept.of_below (S := []) hr9) (fun _ _ => by simp); have gv9 := cell_old hb9 gv8; have hRE9 := hRE.below hr9; have hP9 := ownT_pts ho9; have hfar : ∀ g o, a9 = some ⟨g, o, none⟩ → T ≠ [] → g ∉ F := (fun g o e _ hm => by have h1 := own_far ho9 g o e; have h2 := hL.lt hEr g hm; have h3 := hr8.size; omega); have htk := hL.take T a9 m c9 V (hrdy _ hB9) hE9 hS0 hsl hso hP9 hfar HT9.out hm9; have hrt := fun wz h1 h2 => rtake_any2 S B sm gr T V a9 m c9 wz hS0 hsl hso h1 h2 HT9.out hm9; obtain ⟨hbF, b2, a2, n2, c2, e2, hcb⟩ := hL.first hE9; cases e2; obtain ⟨tt, ett⟩ : ∃ tt, tt = earSays S B sm T V := ⟨_, rfl⟩; rw [← ett] at htk hrt; clear ett; obtain ⟨da, bo, er⟩ := tt; unfold Told.val at htk hrt; dsimp only at htk hrt hbF; have x8 : (bo != bo) = false := (by simp); have x9 : (er != er) = false := (by simp))
            | (go_at_call 37; refine htk.mono ?_; rintro e w10 ⟨rfl, F', hE10, hF10, hk10⟩; have hB10 := hB9.trans (hk10.below hB9.size (fun x hx => by obtain rfl : x = b := (by simpa using hx); exact hF0 _ hbF)); have gv10 := cell_old hB10 gv0)
            | (go_at_call 38; refine (hrt _ (hRE9.off hk10 (by omega) hcb) (hP9.off hk10 (fun g o e hne => by have h1 := hfar g o e hne; intro h2; obtain rfl : g = b := (by simpa using h2); exact h1 hbF))).mono ?_; rintro e w11 ⟨rfl, hRE11, hk11⟩)
            | fail)
          have hF' : ∀ x ∈ F', w0.heap.size ≤ x := fun x hx => by
            rcases hF10 x hx with h | h
            · exact hF0 x h
            · exact Nat.le_trans hB9.size h
          have hg' : gr ∉ F' := fun hx => by
            rcases hF10 gr hx with h | h
            · exact hgF h
            · have := hRE9.lt; omega
          refine ⟨⟨k + 1, F', earNext S sm T V, by omega, by go_num, hL.kept hE10 hk11 (fun x hx h => hg' (by obtain rfl : x = gr := (by simpa using h); exact hx)), hRE11, by rw [earNext_length]; exact hsl, earNext_soft hso, hF', hg', ?_⟩, by simp [intOf]; omega⟩
          exact hB10.trans (hk11.below hB10.size (fun x hx => by obtain rfl : x = gr := (by simpa using hx); exact hg0))
    · have e : k = nt := by omega
      subst e
      go_wp2_with fail
      go_ret
      exact ⟨rfl, hb0.trans (hB.mono (Nat.le_of_lt hl0))⟩
end Go.Proofs.YtplkmkbambbemadGreatDoor
namespace Go.Proofs.YtplkmkbambbemadGreatDoor
open Go.ChangeShapes Go.WideShapes Go.ChangeAt Go.RowKit
theorem Tryz.bytesPt : Tryz.prog.bytesOf 29 = 16 := by kernel_rfl
theorem open_points {H : Type} {enc : TypeId × Value → H} {P : Program} {W : World} {base : Nat} {t e : TypeId} {f0 f1 : Field} {v : Value} {d : DataW H} {p : List MemPlace}
    (ht : P.underlying t = some (.slice e)) (he : P.underlying e = some (.struct #[f0, f1])) (ce : P.cellsOf e = 2) (o0 : f0.offset = 0) (o1 : f1.offset = 1) (c0 : P.cellsOf f0.type = 1) (c1 : P.cellsOf f1.type = 1)
    (h0 : P.underlying f0.type = some (.int .i64)) (h1 : P.underlying f1.type = some (.int .i64)) (hv : Value.okWide P W .any base t v)
    (h : DataW.Trod enc P W 0 (fun _ => true) true t v d p) :
    ∃ a c ps, v = .slice a ps.length c ∧ Pts W a ps ∧ ps.length ≤ c ∧ c ≤ maxLen ∧ Places d c := by
  obtain ⟨a, len, cap, rfl⟩ := okWide_slice ht hv
  obtain ⟨fuel, hf⟩ := h
  rcases Deep.open_slice_pairs ht he ce o0 o1 c0 c1 hf with ⟨hcs, hx⟩ | ⟨x, l, c, m, n, V0, V1, D0, D1, P0, P1, hcs, _, hl, hm, hmm, hd, hx⟩
  · simp [Value.cells] at hcs
    obtain ⟨rfl, rfl, rfl⟩ := hcs
    simp at hx
    exact ⟨none, 0, [], rfl, fun h => absurd rfl h, by simp, by unfold maxLen; omega, .inl ⟨hx.1, rfl⟩⟩
  · simp [Value.cells] at hcs
    obtain ⟨rfl, rfl, rfl⟩ := hcs
    simp at hmm
    subst hmm
    obtain ⟨f, hfx⟩ := Deep.choose_lt (α := Int × Int) (n := len) (p := fun i y => V0 i = .int .i64 y.1 ∧ V1 i = .int .i64 y.2) (fun i hi => by
      obtain ⟨_, _, g3, g4⟩ := hx i (by omega)
      obtain ⟨y, e3, _, _⟩ := DataW.trod_int h0 g3
      obtain ⟨z, e5, _, _⟩ := DataW.trod_int h1 g4
      simp at e3 e5
      exact ⟨(y, z), e3, e5⟩)
    have hlen : ((List.range len).map f).length = len := by simp
    have hat : ∀ i, i < len → ((List.range len).map f).getD i (0, 0) = f i := fun i hi => by simp [List.getD, hi]
    refine ⟨some x, m, (List.range len).map f, by rw [hlen], ?_, by omega, hm, .inr ⟨_, _, (Prod.mk.inj hd).1, by simp; omega⟩⟩
    intro hne
    have hn : 0 < len := by
      rcases Nat.eq_zero_or_pos len with h | h
      · subst h; simp at hne
      · exact h
    obtain ⟨b, off, spot⟩ := x
    have hc0 := (hx 0 (by omega)).1
    have hspot : spot = none := by simpa [Addr.add] using World.cell?_spot hc0
    subst hspot
    have ea : ∀ j, (⟨b, off, none⟩ : Addr).add j = ⟨b, off + j, none⟩ := fun j => by unfold Addr.add; split <;> simp_all
    refine ⟨b, off, rfl, fun i hi => ?_⟩
    rw [hlen] at hi
    obtain ⟨g1, g2, _, _⟩ := hx i (by omega)
    obtain ⟨e1, e2⟩ := hfx i hi
    rw [ea] at g1 g2
    rw [e1] at g1
    rw [e2] at g2
    rw [hat i hi]
    exact ⟨g1, by rw [Nat.add_assoc]; exact g2⟩
end Go.Proofs.YtplkmkbambbemadGreatDoor
namespace Go.Proofs.YtplkmkbambbemadGreatDoor
open Go.ChangeShapes Go.WideShapes Go.ChangeAt Go.RowKit Go.Deep
theorem Addr.addL (b off j : Nat) : (⟨b, off, none⟩ : Addr).add j = ⟨b, off + j, none⟩ := by unfold Addr.add; split <;> simp_all
theorem open_settings {H : Type} {enc : TypeId × Value → H} {P : Program} {W : World} {base : Nat} {t : TypeId} {g0 g1 g2 g3 g4 : Field} {v : Value} {d : DataW H} {p : List MemPlace} (hs : P.underlying t = some (.struct #[g0, g1, g2, g3, g4])) (hC : P.cellsOf t = 5)
    (p0 : g0.offset = 0) (p1 : g1.offset = 1) (p2 : g2.offset = 2) (p3 : g3.offset = 3) (p4 : g4.offset = 4) (k0 : P.cellsOf g0.type = 1) (k1 : P.cellsOf g1.type = 1) (k2 : P.cellsOf g2.type = 1) (k3 : P.cellsOf g3.type = 1) (k4 : P.cellsOf g4.type = 1)
    (h0 : P.underlying g0.type = some (.int .i64)) (h1 : P.underlying g1.type = some (.int .i64)) (h2 : P.underlying g2.type = some (.int .i64)) (h3 : P.underlying g3.type = some (.int .i64)) (h4 : P.underlying g4.type = some (.int .i64)) (hv : Value.okWide P W .any base t v) (h : DataW.Trod enc P W 0 (fun _ => true) true t v d p) :
    ∃ S : Setg, v = S.val ∧ S.In := by
  obtain ⟨cs, rfl, hsz⟩ := okWide_struct hs hv
  obtain ⟨fuel, hf⟩ := h
  obtain ⟨xs, k, hk, hxy, _, hxl, hff⟩ := DataW.trod_struct hs hf
  obtain ⟨cl⟩ := cs
  rw [hC] at hsz
  match xs, hxl, cl, hsz with
  | [y0, y1, y2, y3, y4], _, [v0, v1, v2, v3, v4], _ =>
    have z0 := hff 0 g0 rfl
    have z1 := hff 1 g1 rfl
    have z2 := hff 2 g2 rfl
    have z3 := hff 3 g3 rfl
    have z4 := hff 4 g4 rfl
    simp [Value.cells, p0, p1, p2, p3, p4, k0, k1, k2, k3, k4] at z0 z1 z2 z3 z4
    obtain ⟨a0, e0, _, wf0⟩ := DataW.trod_int h0 z0
    obtain ⟨a1, e1, _, wf1⟩ := DataW.trod_int h1 z1
    obtain ⟨a2, e2, _, wf2⟩ := DataW.trod_int h2 z2
    obtain ⟨a3, e3, _, wf3⟩ := DataW.trod_int h3 z3
    obtain ⟨a4, e4, _, wf4⟩ := DataW.trod_int h4 z4
    simp at e0 e1 e2 e3 e4
    subst e0 e1 e2 e3 e4
    exact ⟨⟨a0, a1, a2, a3, a4⟩, rfl, ⟨bounds_i64 wf0, bounds_i64 wf1, bounds_i64 wf2, bounds_i64 wf3, bounds_i64 wf4⟩⟩
theorem open_shapesF {H : Type} {enc : TypeId × Value → H} {P : Program} {W : World} {u s : TypeId} {g0 g1 g2 : Field} {v : Value} {x : DataW H × List MemPlace} {fuel : Nat} (hu : P.underlying u = some (.slice s)) (hs : P.underlying s = some (.struct #[g0, g1, g2])) (cs : P.cellsOf s = 3)
    (p0 : g0.offset = 0) (p1 : g1.offset = 1) (p2 : g2.offset = 2) (k0 : P.cellsOf g0.type = 1) (k1 : P.cellsOf g1.type = 1) (k2 : P.cellsOf g2.type = 1)
    (h0 : P.underlying g0.type = some (.int .i64)) (h1 : P.underlying g1.type = some (.int .i64)) (h2 : P.underlying g2.type = some (.int .i64)) (hf : DataW.trod enc P W 0 (fun _ => true) true fuel u [v] = some x) :
    ∃ a c ts, v = .slice a ts.length c ∧ Shps W a ts ∧ ts.length ≤ c ∧ c ≤ maxLen := by
  rcases Deep.open_slice hu hf with ⟨hcs, hx⟩ | ⟨x, len, c, m, n, D, Pl, hcs, _, hl, hm, hmm, hd, hx⟩
  · simp at hcs
    subst hcs
    exact ⟨none, 0, [], rfl, fun h => absurd rfl h, by simp, by unfold maxLen; omega⟩
  · simp at hcs
    subst hcs
    simp at hmm
    subst hmm
    obtain ⟨f, hfx⟩ := Deep.choose_lt (α := Int × Int × Int) (n := len) (p := fun i y => W.cell? (x.add (i * 3)) = some (.int .i64 y.1) ∧ W.cell? (x.add (i * 3 + 1)) = some (.int .i64 y.2.1) ∧ W.cell? (x.add (i * 3 + 2)) = some (.int .i64 y.2.2)) (fun i hi => by
      obtain ⟨cs', q1, q2⟩ := hx i (by omega)
      rw [cs] at q1
      obtain ⟨_, hlen, hcell⟩ := World.cells?_some q1
      obtain ⟨xs, k, hk, hxy, _, hxl, hff⟩ := DataW.trod_struct hs q2
      match xs, hxl, cs', hlen with
      | [y0, y1, y2], _, [v0, v1, v2], _ =>
        have z0 := hff 0 g0 rfl
        have z1 := hff 1 g1 rfl
        have z2 := hff 2 g2 rfl
        simp [p0, p1, p2, k0, k1, k2] at z0 z1 z2
        obtain ⟨a0, e0, _, _⟩ := DataW.trod_int h0 z0
        obtain ⟨a1, e1, _, _⟩ := DataW.trod_int h1 z1
        obtain ⟨a2, e2, _, _⟩ := DataW.trod_int h2 z2
        simp at e0 e1 e2
        subst e0 e1 e2
        have t0 := hcell 0 (by omega)
        have t1 := hcell 1 (by omega)
        have t2 := hcell 2 (by omega)
        rw [add_add] at t0 t1 t2
        exact ⟨(a0, a1, a2), by simpa using t0, by simpa using t1, by simpa using t2⟩)
    have hlen : ((List.range len).map f).length = len := by simp
    have hat : ∀ i, i < len → ((List.range len).map f).getD i (0, 0, 0) = f i := fun i hi => by simp [List.getD, hi]
    refine ⟨some x, m, (List.range len).map f, by rw [hlen], ?_, by omega, hm⟩
    intro hne
    have hn : 0 < len := by
      rcases Nat.eq_zero_or_pos len with h | h
      · subst h; simp at hne
      · exact h
    obtain ⟨b, off, spot⟩ := x
    have hc0 := (hfx 0 hn).1
    have hspot : spot = none := by simpa [Addr.add] using World.cell?_spot hc0
    subst hspot
    refine ⟨b, off, rfl, fun i hi => ?_⟩
    rw [hlen] at hi
    obtain ⟨t0, t1, t2⟩ := hfx i hi
    rw [Addr.addL] at t0 t1 t2
    rw [hat i hi]
    exact ⟨t0, by rw [Nat.add_assoc]; exact t1, by rw [Nat.add_assoc]; exact t2⟩
end Go.Proofs.YtplkmkbambbemadGreatDoor
