import Derived.Test.YtpeidccpplfbaaeDoorHqC
namespace Go.Proofs.YtpeidccpplfbaaeDoor
open Go.ChangeShapes Go.WideShapes Go.ChangeAt Go.RowKit

/-! THE PROGRAM'S Take. -/

theorem says_bad (r : RecvM) {x : ShotM} (hd : Bool) (h : shotErr x ≠ 0) : r.says x hd = ⟨ByteArray.empty, false, false, shotErr x⟩ ∧ r.next x hd = r := by
  unfold RecvM.says RecvM.next shotErr at *
  by_cases h1 : shotOk x = false
  · simp [h1]
  · by_cases h2 : 1500 < x.data.size
    · simp [h1, h2]
    · simp [h1, h2] at h

set_option maxHeartbeats 1000000 in
theorem ptake_bad {w : World} {g : Nat} {r : RecvM} (hT : RTakes 69 w g r) (x : ShotM) (hd : Bool) (hx : shotErr x ≠ 0) :
    Calls Tryd.prog 16 #[.pointer (some ⟨g, 0, none⟩), x.val, .bool hd] w fun e w' => e = .returned (r.says x hd).val ∧ RTakes 69 w' g (r.next x hd) ∧ Kept [g] w w' := by
  obtain ⟨hs, hn⟩ := says_bad r hd hx
  rw [hs, hn]
  have hck := fun wz => pcheckShot_any x wz
  have hb0 : Below w.heap.size w (w.alloc (.cells #[.int .i64 x.process, .int .i64 x.version, .bool x.flag, .string x.data] 38)) := (Below.refl _ w).alloc (Nat.le_refl _) _
  obtain ⟨E, eE⟩ : ∃ E, E = shotErr x := ⟨_, rfl⟩
  rw [← eE] at hx hck ⊢
  have x0 : (E != 0) = true := by simpa using hx
  clear eE hs hn hx
  unfold ShotM.val at *
  go_enter Tryd.func16, Tryd.ntmps16
  go_wp2_with (go_at_call 19; refine (hck _).mono ?_; rintro e w1 ⟨rfl, hb1⟩)
  (try simp only [Exit.inBlock, Exit.then]); refine bodyPost_ret (results_tmp4 rfl _ _ _) rfl ?_
  have hB : Below w.heap.size w w1 := hb0.trans (hb1.mono hb0.size)
  exact ⟨rfl, hT.old hB, Kept.of_below hB⟩

set_option maxHeartbeats 4000000 in
theorem ptake_good {w : World} {g : Nat} {r : RecvM} (hT : RTakes 69 w g r) (k : Nat) (ve : Int) (fg : Bool) (da : ByteArray) (hd : Bool) (hk : k < 8) (hv : verOk ve = true) (hs : da.size ≤ 1500) :
    Calls Tryd.prog 16 #[.pointer (some ⟨g, 0, none⟩), (ShotM.mk (k : Int) ve fg da).val, .bool hd] w fun e w' => e = .returned (r.says ⟨(k : Int), ve, fg, da⟩ hd).val ∧ RTakes 69 w' g (r.next ⟨(k : Int), ve, fg, da⟩ hd) ∧ Kept [g] w w' := by
  have hE : shotErr ⟨(k : Int), ve, fg, da⟩ = 0 := by
    unfold shotErr
    rw [shot_right fg da hk hv, if_neg (by simp), if_neg (by show ¬ 1500 < da.size; omega)]
  have hck := fun wz => pcheckShot_any ⟨(k : Int), ve, fg, da⟩ wz
  rw [hE] at hck
  have hb0 : Below w.heap.size w (w.alloc (.cells #[.int .i64 k, .int .i64 ve, .bool fg, .string da] 38)) := (Below.refl _ w).alloc (Nat.le_refl _) _
  have hgl := hT.lt
  have hT0 := hT.old hb0
  have hq : (w.alloc (.cells #[.int .i64 k, .int .i64 ve, .bool fg, .string da] 38)).heap[w.heap.size]? = _ := heap_alloc_new w _
  have b0 : (w.alloc (.cells #[.int .i64 k, .int .i64 ve, .bool fg, .string da] 38)).cell? ⟨w.heap.size, 0, none⟩ = some (.int .i64 (k : Int)) := by rw [cell_of_row _ _ _ _ _ _ hq]; rfl
  have b2 : (w.alloc (.cells #[.int .i64 k, .int .i64 ve, .bool fg, .string da] 38)).cell? ⟨w.heap.size, 2, none⟩ = some (.bool fg) := by rw [cell_of_row _ _ _ _ _ _ hq]; rfl
  have b3 : (w.alloc (.cells #[.int .i64 k, .int .i64 ve, .bool fg, .string da] 38)).cell? ⟨w.heap.size, 3, none⟩ = some (.string da) := by rw [cell_of_row _ _ _ _ _ _ hq]; rfl
  obtain ⟨bx, ebx⟩ : ∃ bx, bx = w.heap.size := ⟨_, rfl⟩
  have hbg : bx ≠ g := by omega
  clear hq hE
  unfold ShotM.val at *
  dsimp only at hck
  go_enter Tryd.func16, Tryd.ntmps16
  go_wp2_with (go_at_call 19; refine (hck _).mono ?_; rintro e w1 ⟨rfl, hb1⟩; have hT1 := hT0.old hb1; have hB1 : Below w.heap.size w w1 := hb0.trans (hb1.mono hb0.size); have c0 := cellOld hb1 b0; have c2 := cellOld hb1 b2; have c3 := cellOld hb1 b3; rw [← ebx] at c0 c2 c3 ⊢; clear ebx b0 b2 b3 hT0 hb1 hb0 hck)
  have cf := hT1.flag hk
  obtain ⟨fl, efl⟩ : ∃ fl, fl = r.flag.getD k false := ⟨_, rfl⟩
  rw [← efl] at cf
  have HFL := hid efl
  clear efl
  have hSAY := says_right r k ve fg da hd hk hv hs
  have hNXT := next_right r k ve fg da hd hk hv hs
  go_region
  have hT1 := hT1.drew
  have hB1 := hB1.drew
  by_cases hf : fl = fg
  · have qf : (!(fl == fg)) = false := by simp [hf]
    rw [qf]
    have htu : r.turned ⟨(k : Int), ve, fg, da⟩ = r := by unfold RecvM.turned; rw [Int.toNat_natCast, ← HFL.out, if_pos hf]
    obtain ⟨T, eT⟩ : ∃ T, T = r.turned ⟨(k : Int), ve, fg, da⟩ := ⟨_, rfl⟩
    have hTv : RTakes 69 w1.drew g T := by rw [eT, htu]; exact hT1
    rw [← eT] at hSAY hNXT
    have HSAY := hid hSAY
    have HNXT := hid hNXT
    have hKv : Kept [g] w w1.drew := Kept.of_below hB1
    have c0 : w1.drew.cell? ⟨bx, 0, none⟩ = _ := c0
    have c3 : w1.drew.cell? ⟨bx, 3, none⟩ = _ := c3
    go_wp2_with fail
    generalize w1.drew = wv at *
    clear hSAY hNXT htu eT hf
    have ch := hTv.heard hk
    have hfz := hTv.free (8 + k)
    have hset := hTv.setHeard hk true
    have hKs := hKv.setCell (p := ⟨g, 8 + k, none⟩) (by simp) (.bool true)
    obtain ⟨h, eh⟩ : ∃ h, h = T.heard.getD k false := ⟨_, rfl⟩
    rw [← eh] at ch
    cases h with
    | true =>
      have hsame : (RecvM.mk T.flag (T.heard.set k true)) = T := by
        obtain ⟨tf, th⟩ := T
        rw [set_same eh.symm]
      have hn : RTakes 69 wv g (r.next ⟨(k : Int), ve, fg, da⟩ hd) := by
        rw [HNXT.out]
        cases hd
        · exact hTv
        · simp only [if_true]; rw [hsame]; exact hTv
      have HSY := hid (show r.says ⟨(k : Int), ve, fg, da⟩ hd = ⟨ByteArray.empty, false, true, 0⟩ by rw [HSAY.out, ← eh]; rfl)
      clear hsame hset hKs eh
      go_region
      go_wp2_with fail
      (try simp only [Exit.inBlock, Exit.then]); refine bodyPost_ret (results_tmp4 rfl _ _ _) rfl ?_
      rw [HSY.out]
      exact ⟨rfl, hn.drew, hKv.drew⟩
    | false =>
      cases hd with
      | false =>
        have hn : RTakes 69 wv g (r.next ⟨(k : Int), ve, fg, da⟩ false) := by rw [HNXT.out]; exact hTv
        have HSY := hid (show r.says ⟨(k : Int), ve, fg, da⟩ false = ⟨ByteArray.empty, false, false, 0⟩ by rw [HSAY.out, ← eh]; rfl)
        clear hset hKs eh
        go_region
        go_wp2_with fail
        (try simp only [Exit.inBlock, Exit.then]); refine bodyPost_ret (results_tmp4 rfl _ _ _) rfl ?_
        rw [HSY.out]
        exact ⟨rfl, hn.drew, hKv.drew⟩
      | true =>
        have hn : RTakes 69 (wv.setCell ⟨g, 8 + k, none⟩ (.bool true)) g (r.next ⟨(k : Int), ve, fg, da⟩ true) := by rw [HNXT.out]; exact hset
        have HSY := hid (show r.says ⟨(k : Int), ve, fg, da⟩ true = ⟨da, true, true, 0⟩ by rw [HSAY.out, ← eh]; rfl)
        have c4 : (wv.setCell ⟨g, 8 + k, none⟩ (.bool true)).cell? ⟨bx, 3, none⟩ = some (.string da) := (World.cell?_of_block (w := wv) (Below.heap_setCell wv ⟨g, 8 + k, none⟩ (.bool true) bx (fun e => hbg e))).trans c3
        clear hset eh
        go_region
        go_wp2_with fail
        go_region; go_wp2_with fail
        (try simp only [Exit.inBlock, Exit.then]); refine bodyPost_ret (results_tmp4 rfl _ _ _) rfl ?_
        rw [HSY.out]
        exact ⟨rfl, hn.drew.drew, hKs.drew.drew⟩
  · have qf : (!(fl == fg)) = true := by simpa using hf
    rw [qf]
    go_wp2_with fail
    have hfz := hT1.free k
    have hT2 := (hT1.setFlag hk fg).drew
    have hK2 := ((Kept.of_below hB1 : Kept [g] w w1.drew).setCell (p := ⟨g, k, none⟩) (by simp) (.bool fg)).drew
    have d0 : (w1.drew.setCell ⟨g, k, none⟩ (.bool fg)).drew.cell? ⟨bx, 0, none⟩ = some (.int .i64 (k : Int)) := (World.cell?_of_block (w := w1) (Below.heap_setCell w1 ⟨g, k, none⟩ (.bool fg) bx (fun e => hbg e))).trans c0
    have d3 : (w1.drew.setCell ⟨g, k, none⟩ (.bool fg)).drew.cell? ⟨bx, 3, none⟩ = some (.string da) := (World.cell?_of_block (w := w1) (Below.heap_setCell w1 ⟨g, k, none⟩ (.bool fg) bx (fun e => hbg e))).trans c3
    go_region
    go_wp2_with fail
    rw [show (w1.setCell ⟨g, k, none⟩ (.bool fg)).drew.drew = (w1.drew.setCell ⟨g, k, none⟩ (.bool fg)).drew from rfl]
    generalize (w1.drew.setCell ⟨g, k, none⟩ (.bool fg)).drew = w2 at *
    clear hT1 hB1 c0 c2 c3 cf hfz
    have hfz := hT2.free (8 + k)
    have ch0 := hT2.heard hk
    have hT3 := (hT2.setHeard hk false).drew
    have hK3 := (hK2.setCell (p := ⟨g, 8 + k, none⟩) (by simp) (.bool false)).drew
    have c0 : (w2.setCell ⟨g, 8 + k, none⟩ (.bool false)).drew.cell? ⟨bx, 0, none⟩ = some (.int .i64 (k : Int)) := (World.cell?_of_block (w := w2) (Below.heap_setCell w2 ⟨g, 8 + k, none⟩ (.bool false) bx (fun e => hbg e))).trans d0
    have c3 : (w2.setCell ⟨g, 8 + k, none⟩ (.bool false)).drew.cell? ⟨bx, 3, none⟩ = some (.string da) := (World.cell?_of_block (w := w2) (Below.heap_setCell w2 ⟨g, 8 + k, none⟩ (.bool false) bx (fun e => hbg e))).trans d3
    go_region
    go_wp2_with fail
    have htu : r.turned ⟨(k : Int), ve, fg, da⟩ = ⟨r.flag.set k fg, r.heard.set k false⟩ := by unfold RecvM.turned; rw [Int.toNat_natCast, ← HFL.out, if_neg hf]
    obtain ⟨T, eT⟩ : ∃ T, T = r.turned ⟨(k : Int), ve, fg, da⟩ := ⟨_, rfl⟩
    have hTv : RTakes 69 (w2.setCell ⟨g, 8 + k, none⟩ (.bool false)).drew g T := by rw [eT, htu]; exact hT3
    have hKv := hK3
    rw [← eT] at hSAY hNXT
    have HSAY := hid hSAY
    have HNXT := hid hNXT
    generalize (w2.setCell ⟨g, 8 + k, none⟩ (.bool false)).drew = wv at *
    clear hSAY hNXT htu eT hf hT2 hK2 d0 d3 hfz ch0 hT3 hK3
    have ch := hTv.heard hk
    have hfz := hTv.free (8 + k)
    have hset := hTv.setHeard hk true
    have hKs := hKv.setCell (p := ⟨g, 8 + k, none⟩) (by simp) (.bool true)
    obtain ⟨h, eh⟩ : ∃ h, h = T.heard.getD k false := ⟨_, rfl⟩
    rw [← eh] at ch
    cases h with
    | true =>
      have hsame : (RecvM.mk T.flag (T.heard.set k true)) = T := by
        obtain ⟨tf, th⟩ := T
        rw [set_same eh.symm]
      have hn : RTakes 69 wv g (r.next ⟨(k : Int), ve, fg, da⟩ hd) := by
        rw [HNXT.out]
        cases hd
        · exact hTv
        · simp only [if_true]; rw [hsame]; exact hTv
      have HSY := hid (show r.says ⟨(k : Int), ve, fg, da⟩ hd = ⟨ByteArray.empty, false, true, 0⟩ by rw [HSAY.out, ← eh]; rfl)
      clear hsame hset hKs eh
      go_region
      go_wp2_with fail
      (try simp only [Exit.inBlock, Exit.then]); refine bodyPost_ret (results_tmp4 rfl _ _ _) rfl ?_
      rw [HSY.out]
      exact ⟨rfl, hn.drew, hKv.drew⟩
    | false =>
      cases hd with
      | false =>
        have hn : RTakes 69 wv g (r.next ⟨(k : Int), ve, fg, da⟩ false) := by rw [HNXT.out]; exact hTv
        have HSY := hid (show r.says ⟨(k : Int), ve, fg, da⟩ false = ⟨ByteArray.empty, false, false, 0⟩ by rw [HSAY.out, ← eh]; rfl)
        clear hset hKs eh
        go_region
        go_wp2_with fail
        (try simp only [Exit.inBlock, Exit.then]); refine bodyPost_ret (results_tmp4 rfl _ _ _) rfl ?_
        rw [HSY.out]
        exact ⟨rfl, hn.drew, hKv.drew⟩
      | true =>
        have hn : RTakes 69 (wv.setCell ⟨g, 8 + k, none⟩ (.bool true)) g (r.next ⟨(k : Int), ve, fg, da⟩ true) := by rw [HNXT.out]; exact hset
        have HSY := hid (show r.says ⟨(k : Int), ve, fg, da⟩ true = ⟨da, true, true, 0⟩ by rw [HSAY.out, ← eh]; rfl)
        have c4 : (wv.setCell ⟨g, 8 + k, none⟩ (.bool true)).cell? ⟨bx, 3, none⟩ = some (.string da) := (World.cell?_of_block (w := wv) (Below.heap_setCell wv ⟨g, 8 + k, none⟩ (.bool true) bx (fun e => hbg e))).trans c3
        clear hset eh
        go_region
        go_wp2_with fail
        go_region; go_wp2_with fail
        (try simp only [Exit.inBlock, Exit.then]); refine bodyPost_ret (results_tmp4 rfl _ _ _) rfl ?_
        rw [HSY.out]
        exact ⟨rfl, hn.drew.drew, hKs.drew.drew⟩
end Go.Proofs.YtpeidccpplfbaaeDoor
