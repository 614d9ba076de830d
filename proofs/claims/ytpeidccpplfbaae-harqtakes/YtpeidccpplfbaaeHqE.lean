import Derived.Test.YtpeidccpplfbaaeHqD
namespace Go.Proofs.Ytpeidccpplfbaae
open Go.ChangeShapes Go.WideShapes Go.ChangeAt Go.RowKit

/-! THE DOCUMENT'S Take. -/

theorem shot_casesR (x : ShotM) : (x.process < 0 ∧ shotErr x = 1) ∨ (0 ≤ x.process ∧ 7 < x.process ∧ shotErr x = 1) ∨ (0 ≤ x.process ∧ x.process ≤ 7 ∧ verOk x.version = false ∧ shotErr x = 1) ∨ (0 ≤ x.process ∧ x.process ≤ 7 ∧ verOk x.version = true ∧ 1500 < x.data.size ∧ shotErr x = 2) ∨ (0 ≤ x.process ∧ x.process ≤ 7 ∧ verOk x.version = true ∧ x.data.size ≤ 1500 ∧ shotErr x = 0) := by
  unfold shotErr shotOk verOk
  by_cases h0 : x.process < 0
  · left; rw [decide_eq_false (by omega)]; simp [h0]
  · by_cases h7 : 7 < x.process
    · right; left; rw [decide_eq_false (by omega)]; simp; omega
    · by_cases hv : 0 ≤ x.version ∧ x.version ≤ 3
      · rw [decide_eq_true hv, decide_eq_true (show 0 ≤ x.process ∧ x.process ≤ 7 ∧ 0 ≤ x.version ∧ x.version ≤ 3 by omega)]
        by_cases hs : 1500 < x.data.size
        · right; right; right; left; simp [hs]; omega
        · right; right; right; right; simp [hs]; omega
      · right; right; left
        rw [decide_eq_false hv, decide_eq_false (by omega)]
        simp; omega

set_option maxHeartbeats 1000000 in
theorem rtakes_bad {w : World} {g : Nat} {r : RecvM} (hT : RTakes 39 w g r) (x : ShotM) (hd : Bool) (hx : shotErr x ≠ 0) :
    Calls Try.prog 7 #[.pointer (some ⟨g, 0, none⟩), x.val, .bool hd] w fun e w' => e = .returned (r.says x hd).val ∧ RTakes 39 w' g (r.next x hd) ∧ Kept [g] w w' := by
  have hve := fun wz => rversion_any x.version wz
  have hb0 : Below w.heap.size w (w.alloc (.cells #[.int .i64 x.process, .int .i64 x.version, .bool x.flag, .string x.data] 30)) := (Below.refl _ w).alloc (Nat.le_refl _) _
  unfold ShotM.val
  rcases shot_casesR x with ⟨h0, hE⟩ | ⟨h0, h7, hE⟩ | ⟨h0, h7, hv, hE⟩ | ⟨h0, h7, hv, hs, hE⟩ | ⟨h0, h7, hv, hs, hE⟩
  · have HE := hid (says_bad r (x := x) hd (by rw [hE]; decide))
    rw [hE] at HE
    have d0 : decide (x.process < 0) = true := decide_eq_true h0
    clear h0
    clear hE
    go_enter Try.func7, Try.ntmps7
    go_wp2_with (go_at_call 9; refine (hve _).mono ?_; rintro e w1 ⟨rfl, rfl⟩)
    (try simp only [Exit.inBlock, Exit.then]); refine bodyPost_ret (results_tmp4 rfl _ _ _) rfl ?_
    rw [HE.out.1, HE.out.2]
    exact ⟨rfl, hT.old hb0, Kept.of_below hb0⟩
  · have HE := hid (says_bad r (x := x) hd (by rw [hE]; decide))
    rw [hE] at HE
    have d0 : decide (x.process < 0) = false := decide_eq_false (by omega)
    have d7 : decide (7 < x.process) = true := decide_eq_true h7
    clear h0 h7
    clear hE
    go_enter Try.func7, Try.ntmps7
    go_wp2_with (go_at_call 9; refine (hve _).mono ?_; rintro e w1 ⟨rfl, rfl⟩)
    (try simp only [Exit.inBlock, Exit.then]); refine bodyPost_ret (results_tmp4 rfl _ _ _) rfl ?_
    rw [HE.out.1, HE.out.2]
    exact ⟨rfl, hT.old hb0, Kept.of_below hb0⟩
  · have HE := hid (says_bad r (x := x) hd (by rw [hE]; decide))
    rw [hE] at HE
    have d0 : decide (x.process < 0) = false := decide_eq_false (by omega)
    have d7 : decide (7 < x.process) = false := decide_eq_false (by omega)
    rw [hv] at hve
    clear h0 h7 hv
    clear hE
    go_enter Try.func7, Try.ntmps7
    go_wp2_with (go_at_call 9; refine (hve _).mono ?_; rintro e w1 ⟨rfl, rfl⟩)
    (try simp only [Exit.inBlock, Exit.then]); refine bodyPost_ret (results_tmp4 rfl _ _ _) rfl ?_
    rw [HE.out.1, HE.out.2]
    exact ⟨rfl, hT.old hb0, Kept.of_below hb0⟩
  · have HE := hid (says_bad r (x := x) hd (by rw [hE]; decide))
    rw [hE] at HE
    have d0 : decide (x.process < 0) = false := decide_eq_false (by omega)
    have d7 : decide (7 < x.process) = false := decide_eq_false (by omega)
    have d5 : decide ((1500 : Int) < (x.data.size : Int)) = true := decide_eq_true (by omega)
    rw [hv] at hve
    clear h0 h7 hv hs
    clear hE
    go_enter Try.func7, Try.ntmps7
    go_wp2_with (go_at_call 9; refine (hve _).mono ?_; rintro e w1 ⟨rfl, rfl⟩)
    (try simp only [Exit.inBlock, Exit.then]); refine bodyPost_ret (results_tmp4 rfl _ _ _) rfl ?_
    rw [HE.out.1, HE.out.2]
    exact ⟨rfl, hT.old hb0, Kept.of_below hb0⟩
  · exact absurd hE hx

set_option maxHeartbeats 4000000 in
theorem rtakes_good {w : World} {g : Nat} {r : RecvM} (hT : RTakes 39 w g r) (k : Nat) (ve : Int) (fg : Bool) (da : ByteArray) (hd : Bool) (hk : k < 8) (hv : verOk ve = true) (hs : da.size ≤ 1500) :
    Calls Try.prog 7 #[.pointer (some ⟨g, 0, none⟩), (ShotM.mk (k : Int) ve fg da).val, .bool hd] w fun e w' => e = .returned (r.says ⟨(k : Int), ve, fg, da⟩ hd).val ∧ RTakes 39 w' g (r.next ⟨(k : Int), ve, fg, da⟩ hd) ∧ Kept [g] w w' := by
  have hve := fun wz => rversion_any ve wz
  rw [hv] at hve
  have hb0 : Below w.heap.size w (w.alloc (.cells #[.int .i64 k, .int .i64 ve, .bool fg, .string da] 30)) := (Below.refl _ w).alloc (Nat.le_refl _) _
  have hgl := hT.lt
  have hT1 := hT.old hb0
  have hq : (w.alloc (.cells #[.int .i64 k, .int .i64 ve, .bool fg, .string da] 30)).heap[w.heap.size]? = _ := heap_alloc_new w _
  have c0 : (w.alloc (.cells #[.int .i64 k, .int .i64 ve, .bool fg, .string da] 30)).cell? ⟨w.heap.size, 0, none⟩ = some (.int .i64 (k : Int)) := by rw [cell_of_row _ _ _ _ _ _ hq]; rfl
  have c2 : (w.alloc (.cells #[.int .i64 k, .int .i64 ve, .bool fg, .string da] 30)).cell? ⟨w.heap.size, 2, none⟩ = some (.bool fg) := by rw [cell_of_row _ _ _ _ _ _ hq]; rfl
  have c3 : (w.alloc (.cells #[.int .i64 k, .int .i64 ve, .bool fg, .string da] 30)).cell? ⟨w.heap.size, 3, none⟩ = some (.string da) := by rw [cell_of_row _ _ _ _ _ _ hq]; rfl
  have d1 : decide ((k : Int) < 0) = false := decide_eq_false (by omega)
  have d2 : decide ((7 : Int) < (k : Int)) = false := decide_eq_false (by omega)
  have d3 : decide ((1500 : Int) < (da.size : Int)) = false := decide_eq_false (by omega)
  obtain ⟨bx, ebx⟩ : ∃ bx, bx = w.heap.size := ⟨_, rfl⟩
  have hbg : bx ≠ g := by omega
  clear hq
  unfold ShotM.val at *
  go_enter Try.func7, Try.ntmps7
  go_wp2_with (go_at_call 9; refine (hve _).mono ?_; rintro e w1 ⟨rfl, rfl⟩)
  have hB1 := hb0
  rw [← ebx] at c0 c2 c3 ⊢
  clear ebx hb0 hve
  generalize (w.alloc (.cells #[.int .i64 k, .int .i64 ve, .bool fg, .string da] 30)) = w1 at *
  have cf := hT1.flag hk
  obtain ⟨fl, efl⟩ : ∃ fl, fl = r.flag.getD k false := ⟨_, rfl⟩
  rw [← efl] at cf
  have HFL := hid efl
  clear efl
  have hSAY := says_right r k ve fg da hd hk hv hs
  have hNXT := next_right r k ve fg da hd hk hv hs
  go_region
  have hT1 := hT1.drew
  have hB1 := hB1.drew
  by_cases hf : fl = fg
  · have qf : (!(fl == fg)) = false := by simp [hf]
    rw [qf]
    have htu : r.turned ⟨(k : Int), ve, fg, da⟩ = r := by unfold RecvM.turned; rw [Int.toNat_natCast, ← HFL.out, if_pos hf]
    obtain ⟨T, eT⟩ : ∃ T, T = r.turned ⟨(k : Int), ve, fg, da⟩ := ⟨_, rfl⟩
    have hTv : RTakes 39 w1.drew g T := by rw [eT, htu]; exact hT1
    rw [← eT] at hSAY hNXT
    have HSAY := hid hSAY
    have HNXT := hid hNXT
    have hKv : Kept [g] w w1.drew := Kept.of_below hB1
    have c0 : w1.drew.cell? ⟨bx, 0, none⟩ = _ := c0
    have c3 : w1.drew.cell? ⟨bx, 3, none⟩ = _ := c3
    generalize w1.drew = wv at *
    clear hSAY hNXT htu eT hf
    have ch := hTv.heard hk
    have hfz := hTv.free (8 + k)
    have hset := hTv.setHeard hk true
    have hKs := hKv.setCell (p := ⟨g, 8 + k, none⟩) (by simp) (.bool true)
    obtain ⟨h, eh⟩ : ∃ h, h = T.heard.getD k false := ⟨_, rfl⟩
    rw [← eh] at ch
    cases h with
    | true =>
      have hsame : (RecvM.mk T.flag (T.heard.set k true)) = T := by
        obtain ⟨tf, th⟩ := T
        rw [set_same eh.symm]
      have hn : RTakes 39 wv g (r.next ⟨(k : Int), ve, fg, da⟩ hd) := by
        rw [HNXT.out]
        cases hd
        · exact hTv
        · simp only [if_true]; rw [hsame]; exact hTv
      have HSY := hid (show r.says ⟨(k : Int), ve, fg, da⟩ hd = ⟨ByteArray.empty, false, true, 0⟩ by rw [HSAY.out, ← eh]; rfl)
      clear hsame hset hKs eh
      go_wp2_with fail
      (try simp only [Exit.inBlock, Exit.then]); refine bodyPost_ret (results_tmp4 rfl _ _ _) rfl ?_
      rw [HSY.out]
      exact ⟨rfl, hn, hKv⟩
    | false =>
      cases hd with
      | false =>
        have hn : RTakes 39 wv g (r.next ⟨(k : Int), ve, fg, da⟩ false) := by rw [HNXT.out]; exact hTv
        have HSY := hid (show r.says ⟨(k : Int), ve, fg, da⟩ false = ⟨ByteArray.empty, false, false, 0⟩ by rw [HSAY.out, ← eh]; rfl)
        clear hset hKs eh
        go_wp2_with fail
        (try simp only [Exit.inBlock, Exit.then]); refine bodyPost_ret (results_tmp4 rfl _ _ _) rfl ?_
        rw [HSY.out]
        exact ⟨rfl, hn, hKv⟩
      | true =>
        have hn : RTakes 39 (wv.setCell ⟨g, 8 + k, none⟩ (.bool true)) g (r.next ⟨(k : Int), ve, fg, da⟩ true) := by rw [HNXT.out]; exact hset
        have HSY := hid (show r.says ⟨(k : Int), ve, fg, da⟩ true = ⟨da, true, true, 0⟩ by rw [HSAY.out, ← eh]; rfl)
        have c4 : (wv.setCell ⟨g, 8 + k, none⟩ (.bool true)).cell? ⟨bx, 3, none⟩ = some (.string da) := (World.cell?_of_block (w := wv) (Below.heap_setCell wv ⟨g, 8 + k, none⟩ (.bool true) bx (fun e => hbg e))).trans c3
        clear hset eh
        go_wp2_with fail
        (try simp only [Exit.inBlock, Exit.then]); refine bodyPost_ret (results_tmp4 rfl _ _ _) rfl ?_
        rw [HSY.out]
        exact ⟨rfl, hn, hKs⟩
  · have qf : (!(fl == fg)) = true := by simpa using hf
    rw [qf]
    go_wp2_with fail
    have hfz := hT1.free k
    have hT2 := (hT1.setFlag hk fg).drew
    have hK2 := ((Kept.of_below hB1 : Kept [g] w w1.drew).setCell (p := ⟨g, k, none⟩) (by simp) (.bool fg)).drew
    have d0 : (w1.drew.setCell ⟨g, k, none⟩ (.bool fg)).drew.cell? ⟨bx, 0, none⟩ = some (.int .i64 (k : Int)) := (World.cell?_of_block (w := w1) (Below.heap_setCell w1 ⟨g, k, none⟩ (.bool fg) bx (fun e => hbg e))).trans c0
    have d3 : (w1.drew.setCell ⟨g, k, none⟩ (.bool fg)).drew.cell? ⟨bx, 3, none⟩ = some (.string da) := (World.cell?_of_block (w := w1) (Below.heap_setCell w1 ⟨g, k, none⟩ (.bool fg) bx (fun e => hbg e))).trans c3
    go_region
    rw [show (w1.setCell ⟨g, k, none⟩ (.bool fg)).drew.drew = (w1.drew.setCell ⟨g, k, none⟩ (.bool fg)).drew from rfl]
    generalize (w1.drew.setCell ⟨g, k, none⟩ (.bool fg)).drew = w2 at *
    clear hT1 hB1 c0 c2 c3 cf hfz
    have hfz := hT2.free (8 + k)
    have ch0 := hT2.heard hk
    have hT3 := hT2.setHeard hk false
    have hK3 := hK2.setCell (p := ⟨g, 8 + k, none⟩) (by simp) (.bool false)
    have c0 : (w2.setCell ⟨g, 8 + k, none⟩ (.bool false)).cell? ⟨bx, 0, none⟩ = some (.int .i64 (k : Int)) := (World.cell?_of_block (w := w2) (Below.heap_setCell w2 ⟨g, 8 + k, none⟩ (.bool false) bx (fun e => hbg e))).trans d0
    have c3 : (w2.setCell ⟨g, 8 + k, none⟩ (.bool false)).cell? ⟨bx, 3, none⟩ = some (.string da) := (World.cell?_of_block (w := w2) (Below.heap_setCell w2 ⟨g, 8 + k, none⟩ (.bool false) bx (fun e => hbg e))).trans d3
    have htu : r.turned ⟨(k : Int), ve, fg, da⟩ = ⟨r.flag.set k fg, r.heard.set k false⟩ := by unfold RecvM.turned; rw [Int.toNat_natCast, ← HFL.out, if_neg hf]
    obtain ⟨T, eT⟩ : ∃ T, T = r.turned ⟨(k : Int), ve, fg, da⟩ := ⟨_, rfl⟩
    have hTv : RTakes 39 (w2.setCell ⟨g, 8 + k, none⟩ (.bool false)) g T := by rw [eT, htu]; exact hT3
    have hKv := hK3
    rw [← eT] at hSAY hNXT
    have HSAY := hid hSAY
    have HNXT := hid hNXT
    clear hSAY hNXT
    have eh : T.heard.getD k false = false := by
      rw [eT, htu]
      show (r.heard.set k false).getD k false = false
      have hl : k < r.heard.length := by have h8 : r.heard.length = 8 := hT2.2.2; omega
      simp [List.getD, hl]
    have hset := hTv.setHeard hk true
    have hKs := hKv.setCell (p := ⟨g, 8 + k, none⟩) (by simp) (.bool true)
    clear htu eT hf
    cases hd with
    | false =>
      have hn : RTakes 39 (w2.setCell ⟨g, 8 + k, none⟩ (.bool false)) g (r.next ⟨(k : Int), ve, fg, da⟩ false) := by rw [HNXT.out]; exact hTv
      have HSY := hid (show r.says ⟨(k : Int), ve, fg, da⟩ false = ⟨ByteArray.empty, false, false, 0⟩ by rw [HSAY.out, eh]; rfl)
      clear hset hKs eh
      go_wp2_with fail
      (try simp only [Exit.inBlock, Exit.then]); refine bodyPost_ret (results_tmp4 rfl _ _ _) rfl ?_
      rw [HSY.out]
      exact ⟨rfl, hn, hKv⟩
    | true =>
      have hn : RTakes 39 ((w2.setCell ⟨g, 8 + k, none⟩ (.bool false)).setCell ⟨g, 8 + k, none⟩ (.bool true)) g (r.next ⟨(k : Int), ve, fg, da⟩ true) := by rw [HNXT.out]; exact hset
      have HSY := hid (show r.says ⟨(k : Int), ve, fg, da⟩ true = ⟨da, true, true, 0⟩ by rw [HSAY.out, eh]; rfl)
      have c4 : ((w2.setCell ⟨g, 8 + k, none⟩ (.bool false)).setCell ⟨g, 8 + k, none⟩ (.bool true)).cell? ⟨bx, 3, none⟩ = some (.string da) := (World.cell?_of_block (w := (w2.setCell ⟨g, 8 + k, none⟩ (.bool false))) (Below.heap_setCell (w2.setCell ⟨g, 8 + k, none⟩ (.bool false)) ⟨g, 8 + k, none⟩ (.bool true) bx (fun e => hbg e))).trans c3
      have hfz2 := hTv.free (8 + k)
      clear hset eh
      go_wp2_with fail
      (try simp only [Exit.inBlock, Exit.then]); refine bodyPost_ret (results_tmp4 rfl _ _ _) rfl ?_
      rw [HSY.out]
      exact ⟨rfl, hn, hKs⟩
end Go.Proofs.Ytpeidccpplfbaae
